import Derived.Test.YtgdabnkjipcbhaaGreatDoorJzaf
namespace Go.Proofs.YtgdabnkjipcbhaaGreatDoor
open Go.RowKit Go.Maps

def cmpOps : List Int := [16, 17, 12, 13, 14, 15]
def cmpMarks : List Txt := [[61, 61], [33, 61], [60], [60, 61], [62], [62, 61]]
def callOps : List Int := [21, 22, 24, 23, 25]
def callWords : List Txt := [[109, 105, 110], [109, 97, 120], [99, 97, 116], [108, 101, 110], [112, 105, 99, 107]]
/-- The reference's tables lie as their initialisers lay them. -/
structure Tabs (w : World) : Prop where
  lt : 3 < w.heap.size
  c1 : ∀ (i : Nat) (x : Int), cmpOps[i]? = some x → w.cell? ⟨0, i, none⟩ = some (.int .i64 x)
  c2 : ∀ (i : Nat) (x : Txt), cmpMarks[i]? = some x → w.cell? ⟨1, i, none⟩ = some (str x)
  c3 : ∀ (i : Nat) (x : Int), callOps[i]? = some x → w.cell? ⟨2, i, none⟩ = some (.int .i64 x)
  c4 : ∀ (i : Nat) (x : Txt), callWords[i]? = some x → w.cell? ⟨3, i, none⟩ = some (str x)
theorem Tabs.keepF {w w' : World} (h : Tabs w) (hk : Keeps (fun _ => False) w w') : Tabs w' :=
  ⟨Nat.lt_of_lt_of_le h.lt hk.size, fun i x hx => (hk.cell (by have := h.lt; omega) id).trans (h.c1 i x hx), fun i x hx => (hk.cell (by have := h.lt; omega) id).trans (h.c2 i x hx), fun i x hx => (hk.cell (by have := h.lt; omega) id).trans (h.c3 i x hx), fun i x hx => (hk.cell (by have := h.lt; omega) id).trans (h.c4 i x hx)⟩
theorem cmp_find : ∀ i : Fin 6, betweens.find? (fun b => decide (b.1 = cmpOps[i]?.getD 0)) = some (cmpOps[i]?.getD 0, cmpMarks[i]?.getD [], 5, 5) := by decide
theorem call_find : ∀ i : Fin 5, betweens.find? (fun b => decide (b.1 = callOps[i]?.getD 0)) = none ∧ callsT.find? (fun c => decide (c.1 = callOps[i]?.getD 0)) = some (callOps[i]?.getD 0, callWords[i]?.getD []) := by decide
theorem node_between (op n : Int) (s : Txt) (k0 k1 : Kid) {o : Int} {m : Txt} {l r : Int} (h : betweens.find? (fun b => decide (b.1 = op)) = some (o, m, l, r)) : nodeT op n s [k0, k1] = atT k0 l ++ [32] ++ m ++ [32] ++ atT k1 r := by
  unfold nodeT
  rw [h]
theorem node_call (op n : Int) (s : Txt) (ks : List Kid) {o : Int} {wd : Txt} (h : betweens.find? (fun b => decide (b.1 = op)) = none) (h2 : callsT.find? (fun c => decide (c.1 = op)) = some (o, wd)) : nodeT op n s ks = wd ++ [40] ++ commas (ks.map fun k => k.2.2) ++ [41] := by
  unfold nodeT
  rw [h, h2]
theorem node_simple (op n : Int) (s : Txt) (ks : List Kid) (h1 : 1 ≤ op) (h6 : op ≤ 6) : nodeT op n s ks = simpleT op n s := by
  have h : op = 1 ∨ op = 2 ∨ op = 3 ∨ op = 4 ∨ op = 5 ∨ op = 6 := by omega
  rcases h with rfl | rfl | rfl | rfl | rfl | rfl <;> rfl
theorem EL.len1 : ∀ {l : EL}, l.len = 1 → ∃ o n s k, l = .cons o n s k .nil
  | .cons o n s k .nil, _ => ⟨o, n, s, k, rfl⟩
theorem EL.len2 : ∀ {l : EL}, l.len = 2 → ∃ o n s k o' n' s' k', l = .cons o n s k (.cons o' n' s' k' .nil)
  | .cons o n s k (.cons o' n' s' k' .nil), _ => ⟨o, n, s, k, o', n', s', k', rfl⟩
theorem kids_two (op : Int) (h : (∃ i : Nat, cmpOps[i]? = some op) ∨ op = 18 ∨ op = 19 ∨ op = 20 ∨ op = 9 ∨ op = 10 ∨ op = 11) : kidsB op = 2 := by
  have hr : 9 ≤ op ∧ op ≤ 20 := by
    rcases h with ⟨i, hi⟩ | h
    · have hm := List.mem_of_getElem? hi
      simp [cmpOps] at hm
      omega
    · omega
  unfold kidsB
  rw [if_neg (by omega), if_neg (by omega), if_pos (by omega)]

set_option maxRecDepth 100000 in
set_option maxHeartbeats 3200000 in
theorem text_step {E : World → Prop} (hL : RLib E) (Z : Zone) (op n : Int) (s : Txt) (kids : EL) (hroot : rootB op n s kids.len = true) (h0 : -9223372036854775808 ≤ n) (h1 : n ≤ 9223372036854775807) (hik : intE kids) (hw : wellE kids = true) (hsz : kids.size ≤ 2147483647) (w : World) (up : Nat) (kv : Value) (hE : E w) (hT : Tabs w) (hS : SlE Z w up kv kids) (hK : KidsT Z w kids) :
    Calls Tryz.prog 34 #[exV op n s kv] w fun e w' => e = .returned (str (textE op n s kids)) ∧ Keeps (fun _ => False) w w' := by
  have htl := tl_le kids hw hik
  have hlen : kids.len ≤ 2147483647 := by have := EL.len_le kids; omega
  obtain ⟨hk0, hkl, hleaf⟩ := root_parts hroot
  have hsl := leaf_len op n s hleaf
  obtain ⟨ao, cap, rfl, hcap⟩ := hS.head
  obtain ⟨HB, hxb, hxc⟩ := boxedT w #[.int .i64 op, .int .i64 n, str s, .slice ao kids.len cap] 54
  have c0 := hxc 0 (.int .i64 op) rfl
  have c1 := hxc 1 (.int .i64 n) rfl
  have c2 := hxc 2 (str s) rfl
  have c3 := hxc 3 (.slice ao kids.len cap) rfl
  have HT := hide (hT.keepF (unhide HB))
  have HS := hide hS
  have HKT := hide hK
  have HE := hide hE
  clear hxc hT hS hK hE
  go_enter Tryz.func34, Tryz.ntmps34
  go_wp2_with fail
  go_loopw [3] (fun i wr => ∃ k : Nat, k ≤ 6 ∧ i = .int .i64 k ∧ (∀ j, j < k → cmpOps[j]? ≠ some op) ∧ Keeps (fun _ => False) (w.alloc (.cells #[.int .i64 op, .int .i64 n, str s, .slice ao kids.len cap] 54)) wr) (fun i _ => 6 - (intOf i).toNat)
  case atStart => exact ⟨0, by omega, rfl, fun j hj => by omega, Keeps.refl _ _⟩
  case round =>
    obtain ⟨k, hk6, rfl, hno, hkp⟩ := hrel
    have b0 := (hkp.cell (o := 0) hxb id).trans c0
    have b1 := (hkp.cell (o := 1) hxb id).trans c1
    have b2 := (hkp.cell (o := 2) hxb id).trans c2
    have b3 := (hkp.cell (o := 3) hxb id).trans c3
    have HKP := hide hkp
    have HT1 := hide ((unhide HT).keepF hkp)
    have hwl : w.heap.size < wr.heap.size := Nat.lt_of_lt_of_le hxb hkp.size
    have h4l := (unhide HT1).lt
    have HNO := hide hno
    clear hkp hno
    by_cases hlt : k < 6
    · obtain ⟨x, hx⟩ : ∃ x, cmpOps[k]? = some x := ⟨_, List.getElem?_eq_getElem (by simpa [cmpOps] using hlt)⟩
      obtain ⟨m, hm⟩ : ∃ x, cmpMarks[k]? = some x := ⟨_, List.getElem?_eq_getElem (by simpa [cmpMarks] using hlt)⟩
      have t1 := (unhide HT1).c1 k x hx
      have t2 := (unhide HT1).c2 k m hm
      have i1 : (k : Int) < 6 := by omega
      have i0 : (0 : Int) ≤ (k : Int) := by omega
      by_cases hxo : op = x
      · subst hxo
        have hfind : betweens.find? (fun b => decide (b.1 = op)) = some (op, m, 5, 5) := by
          have := cmp_find ⟨k, hlt⟩
          simp only [Fin.getElem?_fin, hx, hm, Option.getD_some] at this
          exact this
        have h2 : kids.len = 2 := by have := kids_two op (Or.inl ⟨k, hx⟩); omega
        obtain ⟨o, nn, ss, kk, o', n', s', k', rfl⟩ := EL.len2 h2
        have hml : m.length ≤ 100 := by have := between_marks _ (List.mem_of_find?_eq_some hfind); simp only at this; omega
        have HBT := fun (w' : World) (hk : Keeps (fun _ => False) wr w') => hide (between_v Z op n 5 5 s m o nn o' n' ss s' kk k' up _ w' ((unhide HS).keepF (((unhide HB).trans (unhide HKP)).trans hk)) ((unhide HKT).keepF (((unhide HB).trans (unhide HKP)).trans hk)) (by omega) hml)
        have hnode : atT (o, nn, textE o nn ss kk) 5 ++ [32] ++ m ++ [32] ++ atT (o', n', textE o' n' s' k') 5 = textE op n s (.cons o nn ss kk (.cons o' n' s' k' .nil)) := (node_between op n s _ _ hfind).symm
        simp only [hnode] at HBT
        clear hroot hleaf hw hik hx hm hfind HS HKT hnode
        go_wp2_with fail
        go_quiet (fail)
        go_wp2_with fail
        have f0 : ∀ q : KW (wr.drewN nq), q.wd.cell? ⟨w.heap.size, 0, none⟩ = some (.int .i64 op) := fun q => (((keeps_drewN wr nq).trans q.kept).cell hwl id).trans b0
        have f1 : ∀ q : KW (wr.drewN nq), q.wd.cell? ⟨w.heap.size, 1, none⟩ = some (.int .i64 n) := fun q => (((keeps_drewN wr nq).trans q.kept).cell hwl id).trans b1
        have f2 : ∀ q : KW (wr.drewN nq), q.wd.cell? ⟨w.heap.size, 2, none⟩ = some (str s) := fun q => (((keeps_drewN wr nq).trans q.kept).cell hwl id).trans b2
        have f3 : ∀ q : KW (wr.drewN nq), q.wd.cell? ⟨w.heap.size, 3, none⟩ = some (.slice ao (EL.cons o nn ss kk (.cons o' n' s' k' .nil)).len cap) := fun q => (((keeps_drewN wr nq).trans q.kept).cell hwl id).trans b3
        have fm : ∀ q : KW (wr.drewN nq), q.wd.cell? ⟨1, k, none⟩ = some (str m) := fun q => (((keeps_drewN wr nq).trans q.kept).cell (by omega) id).trans t2
        have HBQ := hide (fun (q : KW (wr.drewN nq)) => kw_of q (unhide (HBT q.wd ((keeps_drewN wr nq).trans q.kept))))
        clear HBT
        refine region_kept (by kernel_rfl) (by kernel_rfl) ?_
        repeat (go_big_quiet_step ((go_at_call 51; exact unhide HBQ _)))
        refine wpQuiet_nil ?_
        rintro _ ⟨nr, rfl⟩
        go_wp2_with fail
        go_ret
        exact ⟨rfl, ((unhide HB).trans (unhide HKP)).trans ((keeps_drewN wr nq).trans nr.kept)⟩
      · have d0 : (op == x) = false := by simpa using hxo
        have HXO := hide hxo
        clear hxo
        go_wp2_with fail
        go_quiet (fail)
        go_wp2_with fail
        go_roundw
        case rel =>
          refine ⟨k + 1, by omega, by go_num, fun j hj => ?_, (unhide HKP).drewN nq⟩
          by_cases hjk : j = k
          · subst hjk
            rw [hx]
            exact fun h => (unhide HXO) (Option.some.inj h).symm
          · exact (unhide HNO) j (by omega)
        case measure => simp [intOf]; omega
    · have i1 : ¬ (k : Int) < 6 := by omega
      obtain rfl : k = 6 := by omega
      have hno6 := unhide HNO
      have n1 : op ≠ 16 := fun h => hno6 0 (by omega) (by rw [h]; rfl)
      have n2 : op ≠ 17 := fun h => hno6 1 (by omega) (by rw [h]; rfl)
      have n3 : op ≠ 12 := fun h => hno6 2 (by omega) (by rw [h]; rfl)
      have n4 : op ≠ 13 := fun h => hno6 3 (by omega) (by rw [h]; rfl)
      have n5 : op ≠ 14 := fun h => hno6 4 (by omega) (by rw [h]; rfl)
      have n6 : op ≠ 15 := fun h => hno6 5 (by omega) (by rw [h]; rfl)
      have HNE := hide (And.intro n1 (And.intro n2 (And.intro n3 (And.intro n4 (And.intro n5 n6)))))
      clear hno6 n1 n2 n3 n4 n5 n6 HNO b0 b1 b2 b3
      go_wp2_with fail
      go_loopw [4] (fun i w2 => ∃ k : Nat, k ≤ 5 ∧ i = .int .i64 k ∧ (∀ j, j < k → callOps[j]? ≠ some op) ∧ Keeps (fun _ => False) (w.alloc (.cells #[.int .i64 op, .int .i64 n, str s, .slice ao kids.len cap] 54)) w2) (fun i _ => 5 - (intOf i).toNat)
      case atStart => exact ⟨0, by omega, rfl, fun j hj => by omega, unhide HKP⟩
      case round =>
        obtain ⟨k, hk5, rfl, hno, hkp⟩ := hrel
        have b0 := (hkp.cell (o := 0) hxb id).trans c0
        have b1 := (hkp.cell (o := 1) hxb id).trans c1
        have b2 := (hkp.cell (o := 2) hxb id).trans c2
        have b3 := (hkp.cell (o := 3) hxb id).trans c3
        have HKQ := hide hkp
        have HT2 := hide ((unhide HT).keepF hkp)
        have HNO := hide hno
        have hwl2 : w.heap.size < wr.heap.size := Nat.lt_of_lt_of_le hxb hkp.size
        have h4l2 := (unhide HT2).lt
        clear hkp hno HKP HT1 hwl h4l
        by_cases hlt5 : k < 5
        · obtain ⟨x, hx⟩ : ∃ x, callOps[k]? = some x := ⟨_, List.getElem?_eq_getElem (by simpa [callOps] using hlt5)⟩
          obtain ⟨m, hm⟩ : ∃ x, callWords[k]? = some x := ⟨_, List.getElem?_eq_getElem (by simpa [callWords] using hlt5)⟩
          have t1 := (unhide HT2).c3 k x hx
          have t2 := (unhide HT2).c4 k m hm
          have i2 : (k : Int) < 5 := by omega
          have i0 : (0 : Int) ≤ (k : Int) := by omega
          by_cases hxo : op = x
          · subst hxo
            have hfind := call_find ⟨k, hlt5⟩
            simp only [Fin.getElem?_fin, hx, hm, Option.getD_some] at hfind
            have hml : m.length ≤ 100 := by have := call_marks _ (List.mem_of_find?_eq_some hfind.2); simp only at this; omega
            have HBT := fun (w' : World) (hk : Keeps (fun _ => False) wr w') => hide (called_v Z op n s m kids up _ w' ((unhide HS).keepF (((unhide HB).trans (unhide HKQ)).trans hk)) ((unhide HKT).keepF (((unhide HB).trans (unhide HKQ)).trans hk)) (by omega) hml hlen)
            have hnode : m ++ [40] ++ commas (kidTs kids) ++ [41] = textE op n s kids := (node_call op n s _ hfind.1 hfind.2).symm
            simp only [hnode] at HBT
            clear hroot hleaf hw hik hx hm hfind HS HKT hnode
            go_wp2_with fail
            go_quiet (fail)
            go_wp2_with fail
            have f0 : ∀ q : KW (wr.drewN nq), q.wd.cell? ⟨w.heap.size, 0, none⟩ = some (.int .i64 op) := fun q => (((keeps_drewN wr nq).trans q.kept).cell hwl2 id).trans b0
            have f1 : ∀ q : KW (wr.drewN nq), q.wd.cell? ⟨w.heap.size, 1, none⟩ = some (.int .i64 n) := fun q => (((keeps_drewN wr nq).trans q.kept).cell hwl2 id).trans b1
            have f2 : ∀ q : KW (wr.drewN nq), q.wd.cell? ⟨w.heap.size, 2, none⟩ = some (str s) := fun q => (((keeps_drewN wr nq).trans q.kept).cell hwl2 id).trans b2
            have f3 : ∀ q : KW (wr.drewN nq), q.wd.cell? ⟨w.heap.size, 3, none⟩ = some (.slice ao kids.len cap) := fun q => (((keeps_drewN wr nq).trans q.kept).cell hwl2 id).trans b3
            have fm : ∀ q : KW (wr.drewN nq), q.wd.cell? ⟨3, k, none⟩ = some (str m) := fun q => (((keeps_drewN wr nq).trans q.kept).cell (by omega) id).trans t2
            have HBQ := hide (fun (q : KW (wr.drewN nq)) => kw_of q (unhide (HBT q.wd ((keeps_drewN wr nq).trans q.kept))))
            clear HBT
            refine region_kept (by kernel_rfl) (by kernel_rfl) ?_
            repeat (go_big_quiet_step ((go_at_call 52; exact unhide HBQ _)))
            refine wpQuiet_nil ?_
            rintro _ ⟨nr, rfl⟩
            go_wp2_with fail
            go_ret
            exact ⟨rfl, ((unhide HB).trans (unhide HKQ)).trans ((keeps_drewN wr nq).trans nr.kept)⟩
          · have d0 : (op == x) = false := by simpa using hxo
            have HXO := hide hxo
            clear hxo
            go_wp2_with fail
            go_quiet (fail)
            go_wp2_with fail
            go_roundw
            case rel =>
              refine ⟨k + 1, by omega, by go_num, fun j hj => ?_, (unhide HKQ).drewN nq⟩
              by_cases hjk : j = k
              · subst hjk
                rw [hx]
                exact fun h => (unhide HXO) (Option.some.inj h).symm
              · exact (unhide HNO) j (by omega)
            case measure => simp [intOf]; omega
        · have i2 : ¬ (k : Int) < 5 := by omega
          obtain rfl : k = 5 := by omega
          have hno5 := unhide HNO
          have n1 : op ≠ 21 := fun h => hno5 0 (by omega) (by rw [h]; rfl)
          have n2 : op ≠ 22 := fun h => hno5 1 (by omega) (by rw [h]; rfl)
          have n3 : op ≠ 24 := fun h => hno5 2 (by omega) (by rw [h]; rfl)
          have n4 : op ≠ 23 := fun h => hno5 3 (by omega) (by rw [h]; rfl)
          have n5 : op ≠ 25 := fun h => hno5 4 (by omega) (by rw [h]; rfl)
          obtain ⟨p1, p2, p3, p4, p5, p6⟩ := unhide HNE
          clear hno5 HNO HNE
          by_cases v19 : op = 19
          · subst v19
            have hfind : betweens.find? (fun b => decide (b.1 = 19)) = some (19, [111, 114], 1, 2) := by decide
            have h2 : kids.len = 2 := by have := kids_two 19 (by omega); omega
            obtain ⟨o, nn, ss, kk, o', n', s', k', rfl⟩ := EL.len2 h2
            have HBT := fun (w' : World) (hk : Keeps (fun _ => False) wr w') => hide (between_v Z 19 n 1 2 s [111, 114] o nn o' n' ss s' kk k' up _ w' ((unhide HS).keepF (((unhide HB).trans (unhide HKQ)).trans hk)) ((unhide HKT).keepF (((unhide HB).trans (unhide HKQ)).trans hk)) (by omega) (by decide))
            have hnode : atT (o, nn, textE o nn ss kk) 1 ++ [32] ++ [111, 114] ++ [32] ++ atT (o', n', textE o' n' s' k') 2 = textE 19 n s (.cons o nn ss kk (.cons o' n' s' k' .nil)) := (node_between 19 n s _ _ hfind).symm
            simp only [hnode] at HBT
            clear hroot hleaf hw hik hfind HS HKT hnode
            go_wp2_with fail
            refine (unhide (HBT _ (Keeps.refl _ wr))).mono ?_
            rintro e w1 ⟨rfl, hk1⟩
            go_wp2_with fail
            go_ret
            exact ⟨rfl, ((unhide HB).trans (unhide HKQ)).trans hk1⟩
          by_cases v18 : op = 18
          · subst v18
            have hfind : betweens.find? (fun b => decide (b.1 = 18)) = some (18, [97, 110, 100], 2, 3) := by decide
            have h2 : kids.len = 2 := by have := kids_two 18 (by omega); omega
            obtain ⟨o, nn, ss, kk, o', n', s', k', rfl⟩ := EL.len2 h2
            have HBT := fun (w' : World) (hk : Keeps (fun _ => False) wr w') => hide (between_v Z 18 n 2 3 s [97, 110, 100] o nn o' n' ss s' kk k' up _ w' ((unhide HS).keepF (((unhide HB).trans (unhide HKQ)).trans hk)) ((unhide HKT).keepF (((unhide HB).trans (unhide HKQ)).trans hk)) (by omega) (by decide))
            have hnode : atT (o, nn, textE o nn ss kk) 2 ++ [32] ++ [97, 110, 100] ++ [32] ++ atT (o', n', textE o' n' s' k') 3 = textE 18 n s (.cons o nn ss kk (.cons o' n' s' k' .nil)) := (node_between 18 n s _ _ hfind).symm
            simp only [hnode] at HBT
            clear hroot hleaf hw hik hfind HS HKT hnode
            go_wp2_with fail
            refine (unhide (HBT _ (Keeps.refl _ wr))).mono ?_
            rintro e w1 ⟨rfl, hk1⟩
            go_wp2_with fail
            go_ret
            exact ⟨rfl, ((unhide HB).trans (unhide HKQ)).trans hk1⟩
          by_cases v20 : op = 20
          · subst v20
            have hfind : betweens.find? (fun b => decide (b.1 = 20)) = some (20, [63, 63], 6, 5) := by decide
            have h2 : kids.len = 2 := by have := kids_two 20 (by omega); omega
            obtain ⟨o, nn, ss, kk, o', n', s', k', rfl⟩ := EL.len2 h2
            have HBT := fun (w' : World) (hk : Keeps (fun _ => False) wr w') => hide (between_v Z 20 n 6 5 s [63, 63] o nn o' n' ss s' kk k' up _ w' ((unhide HS).keepF (((unhide HB).trans (unhide HKQ)).trans hk)) ((unhide HKT).keepF (((unhide HB).trans (unhide HKQ)).trans hk)) (by omega) (by decide))
            have hnode : atT (o, nn, textE o nn ss kk) 6 ++ [32] ++ [63, 63] ++ [32] ++ atT (o', n', textE o' n' s' k') 5 = textE 20 n s (.cons o nn ss kk (.cons o' n' s' k' .nil)) := (node_between 20 n s _ _ hfind).symm
            simp only [hnode] at HBT
            clear hroot hleaf hw hik hfind HS HKT hnode
            go_wp2_with fail
            refine (unhide (HBT _ (Keeps.refl _ wr))).mono ?_
            rintro e w1 ⟨rfl, hk1⟩
            go_wp2_with fail
            go_ret
            exact ⟨rfl, ((unhide HB).trans (unhide HKQ)).trans hk1⟩
          by_cases v9 : op = 9
          · subst v9
            have hfind : betweens.find? (fun b => decide (b.1 = 9)) = some (9, [43], 6, 7) := by decide
            have h2 : kids.len = 2 := by have := kids_two 9 (by omega); omega
            obtain ⟨o, nn, ss, kk, o', n', s', k', rfl⟩ := EL.len2 h2
            have HBT := fun (w' : World) (hk : Keeps (fun _ => False) wr w') => hide (between_v Z 9 n 6 7 s [43] o nn o' n' ss s' kk k' up _ w' ((unhide HS).keepF (((unhide HB).trans (unhide HKQ)).trans hk)) ((unhide HKT).keepF (((unhide HB).trans (unhide HKQ)).trans hk)) (by omega) (by decide))
            have hnode : atT (o, nn, textE o nn ss kk) 6 ++ [32] ++ [43] ++ [32] ++ atT (o', n', textE o' n' s' k') 7 = textE 9 n s (.cons o nn ss kk (.cons o' n' s' k' .nil)) := (node_between 9 n s _ _ hfind).symm
            simp only [hnode] at HBT
            clear hroot hleaf hw hik hfind HS HKT hnode
            go_wp2_with fail
            refine (unhide (HBT _ (Keeps.refl _ wr))).mono ?_
            rintro e w1 ⟨rfl, hk1⟩
            go_wp2_with fail
            go_ret
            exact ⟨rfl, ((unhide HB).trans (unhide HKQ)).trans hk1⟩
          by_cases v10 : op = 10
          · subst v10
            have hfind : betweens.find? (fun b => decide (b.1 = 10)) = some (10, [45], 6, 7) := by decide
            have h2 : kids.len = 2 := by have := kids_two 10 (by omega); omega
            obtain ⟨o, nn, ss, kk, o', n', s', k', rfl⟩ := EL.len2 h2
            have HBT := fun (w' : World) (hk : Keeps (fun _ => False) wr w') => hide (between_v Z 10 n 6 7 s [45] o nn o' n' ss s' kk k' up _ w' ((unhide HS).keepF (((unhide HB).trans (unhide HKQ)).trans hk)) ((unhide HKT).keepF (((unhide HB).trans (unhide HKQ)).trans hk)) (by omega) (by decide))
            have hnode : atT (o, nn, textE o nn ss kk) 6 ++ [32] ++ [45] ++ [32] ++ atT (o', n', textE o' n' s' k') 7 = textE 10 n s (.cons o nn ss kk (.cons o' n' s' k' .nil)) := (node_between 10 n s _ _ hfind).symm
            simp only [hnode] at HBT
            clear hroot hleaf hw hik hfind HS HKT hnode
            go_wp2_with fail
            refine (unhide (HBT _ (Keeps.refl _ wr))).mono ?_
            rintro e w1 ⟨rfl, hk1⟩
            go_wp2_with fail
            go_ret
            exact ⟨rfl, ((unhide HB).trans (unhide HKQ)).trans hk1⟩
          by_cases v11 : op = 11
          · subst v11
            have hfind : betweens.find? (fun b => decide (b.1 = 11)) = some (11, [42], 7, 8) := by decide
            have h2 : kids.len = 2 := by have := kids_two 11 (by omega); omega
            obtain ⟨o, nn, ss, kk, o', n', s', k', rfl⟩ := EL.len2 h2
            have HBT := fun (w' : World) (hk : Keeps (fun _ => False) wr w') => hide (between_v Z 11 n 7 8 s [42] o nn o' n' ss s' kk k' up _ w' ((unhide HS).keepF (((unhide HB).trans (unhide HKQ)).trans hk)) ((unhide HKT).keepF (((unhide HB).trans (unhide HKQ)).trans hk)) (by omega) (by decide))
            have hnode : atT (o, nn, textE o nn ss kk) 7 ++ [32] ++ [42] ++ [32] ++ atT (o', n', textE o' n' s' k') 8 = textE 11 n s (.cons o nn ss kk (.cons o' n' s' k' .nil)) := (node_between 11 n s _ _ hfind).symm
            simp only [hnode] at HBT
            clear hroot hleaf hw hik hfind HS HKT hnode
            go_wp2_with fail
            refine (unhide (HBT _ (Keeps.refl _ wr))).mono ?_
            rintro e w1 ⟨rfl, hk1⟩
            go_wp2_with fail
            go_ret
            exact ⟨rfl, ((unhide HB).trans (unhide HKQ)).trans hk1⟩
          by_cases v7 : op = 7
          · subst v7
            have h2 : kids.len = 1 := by
              have : kidsB 7 = 1 := by decide
              omega
            obtain ⟨o, nn, ss, kk, rfl⟩ := EL.len1 h2
            have hSw := (unhide HS).keepF ((unhide HB).trans (unhide HKQ))
            obtain ⟨ao2, cap2, b, off, heq, hc2, ha2, hx2⟩ := hSw.open
            cases heq
            obtain ⟨rfl, hp⟩ := ha2 (by simp [EL.len])
            obtain ⟨a1, a2, a3, a4, a5, ⟨q0, p0, a6, a7, a8⟩, _⟩ := hx2
            have hkid : SlE Z wr b (.slice q0 kk.len p0) kk := ⟨q0, p0, rfl, a7, a8⟩
            have hktw := (unhide HKT).keepF ((unhide HB).trans (unhide HKQ))
            have hta : TextAt wr o nn ss (.slice q0 kk.len p0) (textE o nn ss kk) := fun w' hk => hktw.1 b _ w' hk (hkid.keepF hk)
            have htl2 := htl
            simp only [tl, EL.size] at htl2
            have htlen : (textE o nn ss kk).length ≤ 10000000000000 := by simp only [EL.size] at hsz; omega
            have HAT := hide (at_v o nn 3 ss _ q0 kk.len p0 wr hta (by omega))
            have hL3 := at_len o nn 3 _ htlen
            have hnode : [110, 111, 116, 32] ++ atT (o, nn, textE o nn ss kk) 3 = textE 7 n s (.cons o nn ss kk .nil) := rfl
            have HND := hide hnode
            generalize atT (o, nn, textE o nn ss kk) 3 = TT at HAT hL3 HND
            clear hroot hleaf hw hik HS HKT hnode hta hktw hkid hSw a2 a8 ha2
            go_wp2_with fail
            refine (unhide HAT).mono ?_
            rintro e w1 ⟨rfl, hk1⟩
            go_wp2_with fail
            go_ret
            refine ⟨congrArg Ending.returned ?_, ((unhide HB).trans (unhide HKQ)).trans hk1⟩
            show Value.string (ByteArray.mk [110, 111, 116, 32].toArray ++ ByteArray.mk TT.toArray) = _
            rw [cat2, unhide HND]
          by_cases v8 : op = 8
          · subst v8
            have h2 : kids.len = 1 := by
              have : kidsB 8 = 1 := by decide
              omega
            obtain ⟨o, nn, ss, kk, rfl⟩ := EL.len1 h2
            have hSw := (unhide HS).keepF ((unhide HB).trans (unhide HKQ))
            obtain ⟨ao2, cap2, b, off, heq, hc2, ha2, hx2⟩ := hSw.open
            cases heq
            obtain ⟨rfl, hp⟩ := ha2 (by simp [EL.len])
            obtain ⟨a1, a2, a3, a4, a5, ⟨q0, p0, a6, a7, a8⟩, _⟩ := hx2
            have hkid : SlE Z wr b (.slice q0 kk.len p0) kk := ⟨q0, p0, rfl, a7, a8⟩
            have hktw := (unhide HKT).keepF ((unhide HB).trans (unhide HKQ))
            have hta : TextAt wr o nn ss (.slice q0 kk.len p0) (textE o nn ss kk) := fun w' hk => hktw.1 b _ w' hk (hkid.keepF hk)
            have htl2 := htl
            simp only [tl, EL.size] at htl2
            have htlen : (textE o nn ss kk).length ≤ 10000000000000 := by simp only [EL.size] at hsz; omega
            have hwr : rootB o nn ss kk.len = true := by simp only [wellE, Bool.and_eq_true] at hw; exact hw.1
            have hE1 := hL.keep (unhide HE) ((unhide HB).trans (unhide HKQ))
            have HNG := hide (negated_v hL o nn ss _ q0 kk.len p0 wr hE1 hik.1.1 hik.1.2 (by have := leaf_len o nn ss (root_parts hwr).2.2; omega) hta (fun h => by subst h; rfl) htlen)
            have hnode : (if o = 1 ∧ 0 ≤ nn then [45, 40] ++ textE o nn ss kk ++ [41] else [45] ++ atT (o, nn, textE o nn ss kk) 8) = textE 8 n s (.cons o nn ss kk .nil) := rfl
            rw [hnode] at HNG
            clear hroot hleaf hw hik HS HKT hnode hta hktw hkid hSw a2 a8 ha2 hwr
            go_wp2_with fail
            refine (unhide HNG).mono ?_
            rintro e w1 ⟨rfl, hk1⟩
            go_wp2_with fail
            go_ret
            exact ⟨rfl, ((unhide HB).trans (unhide HKQ)).trans hk1⟩
          have hop6 : 1 ≤ op ∧ op ≤ 6 := by
            by_cases h : 1 ≤ op ∧ op ≤ 25
            · omega
            · exfalso
              have : kidsB op = -1 := by
                unfold kidsB
                rw [if_neg (by omega), if_neg (by omega), if_neg (by omega), if_neg (by omega)]
              omega
          have hE1 := hL.keep (unhide HE) ((unhide HB).trans (unhide HKQ))
          have HSM := hide (simple_v hL op n s ao kids.len cap wr hE1 h0 h1 (by omega))
          rw [show simpleT op n s = textE op n s kids from (node_simple op n s _ hop6.1 hop6.2).symm] at HSM
          have e1 : (op == 19) = false := by simpa using v19
          have e2 : (op == 18) = false := by simpa using v18
          have e3 : (op == 7) = false := by simpa using v7
          have e4 : (op == 20) = false := by simpa using v20
          have e5 : (op == 9) = false := by simpa using v9
          have e6 : (op == 10) = false := by simpa using v10
          have e7 : (op == 11) = false := by simpa using v11
          have e8 : (op == 8) = false := by simpa using v8
          clear v19 v18 v7 v20 v9 v10 v11 v8 n1 n2 n3 n4 n5 p1 p2 p3 p4 p5 p6 hroot hleaf hw hik HS HKT hop6
          go_wp2_with fail
          refine (unhide HSM).mono ?_
          rintro e w1 ⟨rfl, hk1⟩
          go_wp2_with fail
          go_ret
          exact ⟨rfl, ((unhide HB).trans (unhide HKQ)).trans hk1⟩

/-- The text of every expression that is well made. -/
theorem text_v {E : World → Prop} (hL : RLib E) (Z : Zone) (N : Nat) : ∀ (kids : EL), kids.size < N → kids.size ≤ 2147483647 → ∀ (op n : Int) (s : Txt), rootB op n s kids.len = true → wellE kids = true → -9223372036854775808 ≤ n → n ≤ 9223372036854775807 → intE kids → ∀ (w : World) (up : Nat) (kv : Value), E w → Tabs w → SlE Z w up kv kids →
    Calls Tryz.prog 34 #[exV op n s kv] w fun e w' => e = .returned (str (textE op n s kids)) ∧ Keeps (fun _ => False) w w' := by
  induction N with
  | zero => intro kids h; omega
  | succ N ih =>
    intro kids hN hsz op n s hr hw h0 h1 hi w up kv hE hT hS
    refine text_step hL Z op n s kids hr h0 h1 hi hw hsz w up kv hE hT hS ?_
    have key : ∀ l : EL, l.size ≤ kids.size → wellE l = true → intE l → KidsT Z w l := by
      intro l
      induction l with
      | nil => exact fun _ _ _ => trivial
      | cons o nn ss k r ihk ihr =>
        intro hl hwl hil
        simp only [EL.size] at hl
        simp only [wellE, Bool.and_eq_true] at hwl
        exact ⟨fun up' kv' w' hk hs => ih k (by omega) (by omega) o nn ss hwl.1 hwl.2.1 hil.1.1 hil.1.2 hil.2.1 w' up' kv' (hL.keep hE hk) (hT.keepF hk) hs, ihr (by omega) hwl.2.2 hil.2.2⟩
    exact key kids (Nat.le_refl _) hw hi
end Go.Proofs.YtgdabnkjipcbhaaGreatDoor
