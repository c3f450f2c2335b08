import Derived.Test.YtklkhegeeglfbaaGreatDoorJv
import Derived.RegionTactic
import Derived.Test.YtklkhegeeglfbaaGreatDoorJn
import Derived.Test.YtklkhegeeglfbaaGreatDoorQd
namespace Go.Proofs.YtklkhegeeglfbaaGreatDoor
open Go.RowKit Go.Maps

set_option maxRecDepth 100000 in
set_option maxHeartbeats 2000000 in
theorem parseBytes_v (t : Txt) (w : World) (hE : Env w) (ht : t.length ≤ 1099511627776) :
    Calls Tryz.prog 87 #[str t] w fun e w' => TakenP e (pvP 3 t) ∧ Keeps (fun _ => False) w w' := by
  have HKB : Hid (Keeps (fun _ => False) w (w.alloc (.cells #[.int .i64 0, .int .i64 0, str []] 40))) := (Keeps.refl _ _).alloc _
  have HQ := hide (val_unquote t (w.alloc (.cells #[.int .i64 0, .int .i64 0, str []] 40)) (hE.keepF (unhide HKB)) ht)
  have HPV : Hid (pvP 3 t = if (unquoteB t).2.2 ≠ 0 then none else some (⟨3, 0, (unquoteB t).1⟩, t.drop (unquoteB t).2.1)) := by show _ = _; unfold pvP; rw [if_neg (by omega), if_neg (by omega)]
  have hn := unquoteB_n t
  unfold unqV at HQ
  generalize unquoteB t = D at *
  obtain ⟨B, n, k⟩ := D
  simp only at HPV hn HQ
  clear hE
  rcases hn with ⟨h1, rfl⟩ | ⟨rfl, rfl⟩
  · have HP : Hid (pvP 3 t = some (⟨3, 0, B⟩, t.drop n)) := by show _ = _; rw [unhide HPV, if_neg (by simp)]
    obtain ⟨R, HR⟩ : ∃ R : Txt, Hid (t.drop n = R) := ⟨_, hide rfl⟩
    have hx : (ByteArray.mk t.toArray).extract n t.length = ⟨R.toArray⟩ := by rw [ext_str, unhide HR, List.take_of_length_le (by rw [← unhide HR]; simp)]
    rw [unhide HR] at HP
    have h1' : (n : Int) ≤ (t.length : Int) := by omega
    have h0' : (0 : Int) ≤ (n : Int) := by omega
    clear HPV
    go_enter Tryz.func87, Tryz.ntmps87
    go_wp2_with fail
    refine (unhide HQ).mono ?_
    rintro e w4 ⟨rfl, hk4⟩
    have HK4 := hide hk4
    have hb4 := cell69 hk4
    have hs := set3 hb4 (.int .i64 3) (.int .i64 0) (str B)
    have f0 := frozen_of_blk hb4 0
    have f1 := frozen_of_blk hb4 1
    have f2 := frozen_of_blk hb4 2
    have q0 : w4.cell? ⟨w.heap.size, 0, none⟩ = some (.int .i64 0) := by rw [cell_of_blk hb4]; rfl
    have q1 : w4.cell? ⟨w.heap.size, 1, none⟩ = some (.int .i64 0) := by rw [cell_of_blk hb4]; rfl
    have q2 : w4.cell? ⟨w.heap.size, 2, none⟩ = some (str []) := by rw [cell_of_blk hb4]; rfl
    obtain ⟨⟨c0, c1, c2⟩, hks⟩ := hs
    have HK5 := hide (((unhide HKB).trans (unhide HK4)).narrow (F := fun q => q = w.heap.size) hks (fun q e => by omega))
    have hlt4 := lt_of_block hb4
    clear hb4 hks hk4 HQ
    go_wp2_with fail
    go_region
    go_wp2_with fail
    refine bodyPost_ret (v := .tuple #[.agg #[.int .i64 3, .int .i64 0, str B], str R, .bool true]) (by simp [results, go_sem, c0, c1, c2]) rfl ?_
    exact ⟨TakenP.yes (x := ⟨3, 0, B⟩) (unhide HP), (unhide HK5).drew⟩
  · have HP : Hid (pvP 3 t = none) := by show _ = _; rw [unhide HPV, if_pos (by simp)]
    clear HPV
    go_enter Tryz.func87, Tryz.ntmps87
    go_wp2_with fail
    refine (unhide HQ).mono ?_
    rintro e w4 ⟨rfl, hk4⟩
    have HK4 := hide hk4
    have hb4 := cell69 hk4
    have hs := set3 hb4 (.int .i64 0) (.int .i64 0) (str [])
    have f0 := frozen_of_blk hb4 0
    have f1 := frozen_of_blk hb4 1
    have f2 := frozen_of_blk hb4 2
    have q0 : w4.cell? ⟨w.heap.size, 0, none⟩ = some (.int .i64 0) := by rw [cell_of_blk hb4]; rfl
    have q1 : w4.cell? ⟨w.heap.size, 1, none⟩ = some (.int .i64 0) := by rw [cell_of_blk hb4]; rfl
    have q2 : w4.cell? ⟨w.heap.size, 2, none⟩ = some (str []) := by rw [cell_of_blk hb4]; rfl
    obtain ⟨⟨c0, c1, c2⟩, hks⟩ := hs
    have HK5 := hide (((unhide HKB).trans (unhide HK4)).narrow (F := fun q => q = w.heap.size) hks (fun q e => by omega))
    have hlt4 := lt_of_block hb4
    clear hb4 hks hk4 HQ
    go_wp2_with fail
    refine bodyPost_ret (v := .tuple #[.agg #[.int .i64 0, .int .i64 0, str []], str [], .bool false]) (by simp [results, go_sem, c0, c1, c2]) rfl ?_
    exact ⟨TakenP.no (x := ⟨0, 0, []⟩) (r := []) (unhide HP), unhide HK5⟩

set_option maxRecDepth 100000 in
set_option maxHeartbeats 2000000 in
theorem parseValue_v (ty : Int) (hty : ty = 1 ∨ ty = 2 ∨ ty = 3) (t : Txt) (w : World) (hE : Env w) (ht : t.length ≤ 1099511627776) :
    Calls Tryz.prog 65 #[.int .i64 ty, str t] w fun e w' => TakenP e (pvP ty t) ∧ Keeps (fun _ => False) w w' := by
  have HKB : Hid (Keeps (fun _ => False) w (w.alloc (.cells #[.int .i64 0, .int .i64 0, str []] 40))) := (Keeps.refl _ _).alloc _
  have HEN := hE.keepF (unhide HKB)
  have HQ : Hid (Calls Tryz.prog (if ty = 1 then 85 else if ty = 2 then 86 else 87) #[str t] (w.alloc (.cells #[.int .i64 0, .int .i64 0, str []] 40)) fun e w' => TakenP e (pvP ty t) ∧ Keeps (fun _ => False) (w.alloc (.cells #[.int .i64 0, .int .i64 0, str []] 40)) w') := by
    rcases hty with rfl | rfl | rfl
    · exact parseInt_v t _ HEN ht
    · exact parseBool_v t _
    · exact parseBytes_v t _ HEN ht
  generalize pvP ty t = O at *
  clear hE HEN
  rcases hty with rfl | rfl | rfl
  all_goals
    simp only [if_true, if_false, show ¬ (2 : Int) = 1 by omega, show ¬ (3 : Int) = 1 by omega, show ¬ (3 : Int) = 2 by omega] at HQ
    go_enter Tryz.func65, Tryz.ntmps65
    go_wp2_with fail
    refine (unhide HQ).mono ?_
    rintro e w4 ⟨⟨x, r, ok, rfl, hok, hxr⟩, hk4⟩
    have HOK := hide hok
    have HXR := hide hxr
    have HK4 := hide hk4
    have hb4 := cell69 hk4
    have hs := set3 hb4 (.int .i64 x.kind) (.int .i64 x.n) (str x.s)
    have f0 := frozen_of_blk hb4 0
    have f1 := frozen_of_blk hb4 1
    have f2 := frozen_of_blk hb4 2
    have q0 : w4.cell? ⟨w.heap.size, 0, none⟩ = some (.int .i64 0) := by rw [cell_of_blk hb4]; rfl
    have q1 : w4.cell? ⟨w.heap.size, 1, none⟩ = some (.int .i64 0) := by rw [cell_of_blk hb4]; rfl
    have q2 : w4.cell? ⟨w.heap.size, 2, none⟩ = some (str []) := by rw [cell_of_blk hb4]; rfl
    obtain ⟨⟨c0, c1, c2⟩, hks⟩ := hs
    have HK5 := hide (((unhide HKB).trans (unhide HK4)).narrow (F := fun q => q = w.heap.size) hks (fun q e => by omega))
    have hlt4 := lt_of_block hb4
    clear hb4 hks hk4 HQ hok hxr
    go_wp2_with fail
    refine bodyPost_ret (v := .tuple #[.agg #[.int .i64 x.kind, .int .i64 x.n, str x.s], str r, .bool ok]) (by simp [results, go_sem, c0, c1, c2]) rfl ?_
    exact ⟨⟨x, r, ok, rfl, unhide HOK, unhide HXR⟩, unhide HK5⟩
end Go.Proofs.YtklkhegeeglfbaaGreatDoor
namespace Go.Proofs.YtklkhegeeglfbaaGreatDoor
open Go.RowKit Go.Maps

theorem pvP_len {ty : Int} {T s : Txt} {v : ValA} (h : pvP ty T = some (v, s)) : s.length ≤ T.length := by
  unfold pvP at h
  split at h
  · split at h
    · simp only [Option.some.injEq, Prod.mk.injEq] at h
      rw [← h.2]
      exact (List.dropWhile_sublist numC).length_le
    · cases h
  · split at h
    · split at h
      · simp only [Option.some.injEq, Prod.mk.injEq] at h
        rw [← h.2, List.length_drop]; omega
      · split at h
        · simp only [Option.some.injEq, Prod.mk.injEq] at h
          rw [← h.2, List.length_drop]; omega
        · cases h
    · split at h
      · cases h
      · simp only [Option.some.injEq, Prod.mk.injEq] at h
        rw [← h.2, List.length_drop]; omega
theorem stored3 {w : World} {S k : Nat} {R Z : List ValA} {z : ValA} (x : ValA) (hb : w.heap[S]? = some (.cells (vcs (R ++ z :: Z)).toArray 40 (0, 0))) (hk : R.length = k) :
    (((w.setCell ⟨S, k * 3, none⟩ (.int .i64 x.kind)).setCell ⟨S, k * 3 + 1, none⟩ (.int .i64 x.n)).setCell ⟨S, k * 3 + 2, none⟩ (str x.s)).heap[S]? = some (.cells (vcs (R ++ x :: Z)).toArray 40 (0, 0)) ∧ Keeps (fun q => q = S) w (((w.setCell ⟨S, k * 3, none⟩ (.int .i64 x.kind)).setCell ⟨S, k * 3 + 1, none⟩ (.int .i64 x.n)).setCell ⟨S, k * 3 + 2, none⟩ (str x.s)) := by
  subst hk
  refine ⟨?_, ((keeps_set w S _ _).trans (keeps_set _ S _ _)).trans (keeps_set _ S _ _)⟩
  rw [heap_setCell_at (heap_setCell_at (heap_setCell_at hb _) _) _, vcs_set]
def rowsTo (l : List FieldA) (R : List ValA) (k : Nat) : List ValA := R ++ zeros (l.drop k)
theorem rowsTo_at {l : List FieldA} {R : List ValA} {k : Nat} {f : FieldA} (h : l[k]? = some f) : rowsTo l R k = R ++ zeroV f :: zeros (l.drop (k + 1)) ∧ ∀ x, rowsTo l (R ++ [x]) (k + 1) = R ++ x :: zeros (l.drop (k + 1)) := by
  unfold rowsTo
  rw [drop_at h]
  exact ⟨rfl, fun x => by simp⟩
theorem map_snoc {R : List ValA} {y : ValA} {o : Option (List ValA × Txt)} : ((o.map fun p => (y :: p.1, p.2)).map fun p => (R ++ p.1, p.2)) = o.map fun p => (R ++ [y] ++ p.1, p.2) := by
  cases o with
  | none => rfl
  | some p => simp
/-- What the reading of a record's items answers. -/
def ItemsM (w' : World) (B : Nat) (v : Value) (ok : Bool) : Option (List ValA) → Prop
  | none => ok = false
  | some r => ok = true ∧ w'.ownsRow B 40 3 v r.length (vcs r)
def ItemsA (e : Ending) (w' : World) (B : Nat) (o : Option (List ValA)) : Prop := ∃ v' ok, e = .returned (.tuple #[v', .bool ok]) ∧ ItemsM w' B v' ok o

set_option maxRecDepth 100000 in
set_option maxHeartbeats 4000000 in
theorem parseItems_v (l : List FieldA) (v : Value) (t : Txt) (w : World) (hE : Env w) (h : FldsAt w v l) (hs : schemaB l = true) (ht : t.length ≤ 1099511627776) :
    Calls Tryz.prog 38 #[.agg #[v], str t] w fun e w' => ItemsA e w' w.heap.size (if ([123] : Txt).isPrefixOf t then finP (parP l (t.drop 1) false) else none) ∧ Keeps (fun _ => False) w w' := by
  obtain ⟨ao, cap, rfl⟩ := RowAt.form h
  obtain ⟨HB, hb, hbc⟩ := boxed w #[.slice ao l.length cap] 26
  have hp := hbc 0 (.slice ao l.length cap) rfl
  have HF := hide (h.keepF (unhide HB))
  have HE0 := hide hE
  have HQ := hide (cutPrefix_v t [123] (w.alloc (.cells #[.slice ao l.length cap] 26)))
  rw [(pre_eq _ _).1] at HQ
  have hl8 := (schemaB_len hs).2
  have HOK : Hid (∀ f ∈ l, (f.type = 1 ∨ f.type = 2 ∨ f.type = 3) ∧ f.name.length ≤ 8) := fun f hf => ⟨type_of (List.all_eq_true.1 (schemaB_ok hs) f hf), (schemaB_name8 hs hf).1⟩
  clear hbc h hE hs
  cases hpx : List.isPrefixOf ([123] : Txt) t with
  | false =>
    rw [hpx] at HQ
    clear hpx
    go_enter Tryz.func38, Tryz.ntmps38
    go_wp2_with fail
    refine (unhide HQ).mono ?_
    rintro e w2 ⟨rfl, rfl⟩
    go_wp2_with fail
    go_ret2
    exact ⟨⟨.slice none 0 0, false, rfl, rfl⟩, unhide HB⟩
  | true =>
    rw [hpx, (pre_eq _ _).2 hpx, show ([123] : Txt).length = 1 from rfl] at HQ
    rw [if_pos rfl]
    clear hpx
    obtain ⟨X0, HX0⟩ : ∃ X0 : Txt, Hid (t.drop 1 = X0) := ⟨_, hide rfl⟩
    rw [unhide HX0] at HQ ⊢
    have hX0 : X0.length ≤ 1099511627776 := by rw [← unhide HX0, List.length_drop]; omega
    obtain ⟨O, HO⟩ : ∃ O, Hid (parP l X0 false = O) := ⟨_, rfl⟩
    rw [unhide HO]
    have HZ := hide (zero_v l _ _ (unhide HF) hl8)
    go_enter Tryz.func38, Tryz.ntmps38
    go_wp2_with fail
    refine (unhide HQ).mono ?_
    rintro e w2 ⟨rfl, rfl⟩
    go_wp2_with fail
    refine (unhide HZ).mono ?_
    rintro e w3 ⟨g, rfl, hg, hblk, hk3⟩
    have hp3 := (hk3.cell (o := 0) hb id).trans hp
    have hb3 : w.heap.size < w3.heap.size := Nat.lt_of_lt_of_le hb hk3.size
    have HF3 := hide ((unhide HF).keepF hk3)
    have HB3 := hide ((unhide HB).trans hk3)
    have HBLK := hide hblk
    have hg3 := lt_of_block hblk
    have hgs : w.heap.size < g := by
      have : (w.alloc (.cells #[.slice ao l.length cap] 26)).heap.size = w.heap.size + 1 := by simp
      omega
    have HBG : Hid (∀ b off, ao = some ⟨b, off, none⟩ → 0 < l.length → ¬ b = g) := fun b off e h0 eb => by
      subst eb
      obtain ⟨b', off', c', e', hbl, _⟩ := (unhide HF).cells h0
      simp at e'
      rw [e'.1] at e
      simp at e
    clear hk3 HZ HQ HF hp hblk
    generalize w.alloc (.cells #[.slice ao l.length cap] 26) = w1 at *
    go_wp2_with fail
    go_loopw [4, 5, 6, 7, 24] (fun rr okk xx cc i wr => ∃ (k : Nat) (X C : Txt) (sm : Bool) (R : List ValA), rr = .slice (some ⟨g, 0, none⟩) l.length l.length ∧ k ≤ l.length ∧ i = .int .i64 k ∧ (∃ o, okk = .bool o) ∧ xx = str X ∧ X.length ≤ 1099511627776 ∧ cc = str C ∧ Hid (C = if sm then [44] else []) ∧ Hid (R.length = k) ∧ Hid (O = (parP (l.drop k) X sm).map fun p => (R ++ p.1, p.2)) ∧ Hid (wr.heap[g]? = some (.cells (vcs (rowsTo l R k)).toArray 40 (0, 0))) ∧ Keeps (fun q => q = g) w3 wr) (fun _ _ _ _ i _ => l.length - (intOf i).toNat)
    case atStart => exact ⟨0, X0, [], false, [], rfl, Nat.zero_le _, rfl, ⟨_, rfl⟩, rfl, hX0, rfl, rfl, rfl, by show _ = _; rw [← unhide HO, List.drop_zero]; simp, by show _ = _; unfold rowsTo; rw [List.drop_zero, List.nil_append]; exact unhide HBLK, Keeps.refl _ _⟩
    case round =>
      obtain ⟨k, X, C, sm, R, rfl, hk, rfl, ⟨o, rfl⟩, rfl, hX, rfl, HC, HRL, HU, HBk, hkp⟩ := hrel
      have HKP := hide hkp
      have hgw : g < wr.heap.size := Nat.lt_of_lt_of_le hg3 hkp.size
      clear hkp
      by_cases hlt : k < l.length
      · obtain ⟨f, hf⟩ : ∃ f, l[k]? = some f := ⟨_, List.getElem?_eq_getElem hlt⟩
        obtain ⟨b5, off5, c5, e5, hbl, hc⟩ := (unhide HF3).cells (by omega)
        simp at e5
        obtain ⟨rfl, rfl⟩ := e5
        have hb5g : ¬ b5 = g := (unhide HBG) b5 off5 rfl (by omega)
        have c0 := ((unhide HKP).cell hbl hb5g).trans (hc k f hf).1
        have c1 := ((unhide HKP).cell hbl hb5g).trans (hc k f hf).2.1
        have c2 := ((unhide HKP).cell hbl hb5g).trans (hc k f hf).2.2
        have HRA := hide (rowsTo_at (R := R) hf)
        have HDR : Hid (l.drop k = f :: l.drop (k + 1)) := drop_at hf
        obtain ⟨hty, hnl⟩ := (unhide HOK) f (List.mem_of_getElem? hf)
        obtain ⟨HX, hxb, hxc⟩ := boxed wr #[str f.name, .int .i64 f.type, .bool f.opt] 69
        have n0 : (wr.alloc (.cells #[str f.name, .int .i64 f.type, .bool f.opt] 69)).cell? ⟨wr.heap.size, 0, none⟩ = some (str f.name) := hxc 0 _ rfl
        have n1 : (wr.alloc (.cells #[str f.name, .int .i64 f.type, .bool f.opt] 69)).cell? ⟨wr.heap.size, 1, none⟩ = some (.int .i64 f.type) := hxc 1 _ rfl
        have HKN := hide ((unhide HKP).trans (unhide HX).any)
        have HBN : Hid ((wr.alloc (.cells #[str f.name, .int .i64 f.type, .bool f.opt] 69)).heap[g]? = some (.cells (vcs (rowsTo l R k)).toArray 40 (0, 0))) := (Below.heap_alloc _ _ _ hgw).trans (unhide HBk)
        have HENw : Hid (Env (wr.alloc (.cells #[str f.name, .int .i64 f.type, .bool f.opt] 69))) := (unhide HE0).keepF ((unhide HB3).narrow (F := fun q => q = g) (unhide HKN) (fun q e => by omega))
        obtain ⟨PR, HPR⟩ : ∃ PR : Txt, Hid (preP f sm = PR) := ⟨_, hide rfl⟩
        obtain ⟨N1, HN1⟩ : ∃ N1 : Txt, Hid (N1 = C ++ f.name) := ⟨C ++ f.name, rfl⟩
        have hCl : C.length ≤ 1 := by rw [unhide HC]; cases sm <;> simp
        have hN1l : N1.length ≤ 9 := by rw [unhide HN1, List.length_append]; omega
        have t1 : ∀ w' : World, (Op.stringOp .add (ByteArray.mk C.toArray) (ByteArray.mk f.name.toArray)).run Tryz.prog w' = .ok (str N1) w' := fun w' => by
          rw [run_string_add_sum w' _ _ (by simp [ByteArray.size]; omega), str_cat C f.name N1 (by rw [unhide HN1])]
        have t2 : ∀ w' : World, (Op.stringOp .add (ByteArray.mk N1.toArray) (ByteArray.mk #[61])).run Tryz.prog w' = .ok (str PR) w' := fun w' => by
          rw [run_string_add_sum w' _ _ (by simp [ByteArray.size]; omega), str_cat N1 [61] PR (by rw [unhide HN1, unhide HC, ← unhide HPR]; rfl)]
        have HQ := hide (cutPrefix_v X PR (wr.alloc (.cells #[str f.name, .int .i64 f.type, .bool f.opt] 69)))
        rw [(pre_eq _ _).1] at HQ
        have i5 : (k : Int) < (l.length : Int) := by omega
        have HUS : Hid (O = (parP (f :: l.drop (k + 1)) X sm).map fun p => (R ++ p.1, p.2)) := by show _ = _; rw [unhide HU, unhide HDR]
        rw [parP, unhide HPR] at HUS
        clear hc hf hxc
        cases hpx : List.isPrefixOf PR X with
        | false =>
          rw [hpx] at HQ
          rw [if_neg (by rw [hpx]; simp), map_snoc] at HUS
          clear hpx
          go_wp2_with fail
          refine (unhide HQ).mono ?_
          rintro e w5 ⟨rfl, rfl⟩
          go_wp2_with fail
          go_roundw
          case rel => exact ⟨k + 1, X, C, sm, R ++ [zeroV f], rfl, by omega, by go_num, ⟨_, rfl⟩, rfl, hX, rfl, unhide HC, by show _ = _; rw [List.length_append, unhide HRL]; rfl, unhide HUS, by show _ = _; rw [(unhide HRA).2, ← (unhide HRA).1]; exact unhide HBN, unhide HKN⟩
          case measure => simp [intOf]; omega
        | true =>
          rw [hpx, (pre_eq _ _).2 hpx] at HQ
          rw [if_pos (by rw [hpx])] at HUS
          obtain ⟨X1, HX1⟩ : ∃ X1 : Txt, Hid (X.drop PR.length = X1) := ⟨_, hide rfl⟩
          have hX1 : X1.length ≤ 1099511627776 := by rw [← unhide HX1, List.length_drop]; omega
          rw [unhide HX1] at HUS HQ
          have HPV := hide (parseValue_v f.type hty X1 _ (unhide HENw) hX1)
          clear hpx
          go_wp2_with fail
          refine (unhide HQ).mono ?_
          rintro e w5 ⟨rfl, rfl⟩
          go_wp2_with fail
          refine (unhide HPV).mono ?_
          rintro e w6 ⟨⟨x, r, ok, rfl, hok, hxr⟩, hk6⟩
          have hb6 : w6.heap[g]? = some (.cells (vcs (R ++ zeroV f :: zeros (l.drop (k + 1)))).toArray 40 (0, 0)) := by
            rw [hk6.block _ (lt_of_block (unhide HBN)) id, unhide HBN, (unhide HRA).1]
          obtain ⟨d0, d1, d2, g0, g1, g2⟩ := cells3 hb6 (unhide HRL)
          have HST := hide (stored3 x hb6 (unhide HRL))
          have HK6 := hide (((unhide HKN).trans hk6.any).then (unhide HST).2 (fun q _ e => e))
          have HXR := hide hxr
          have hg6 := lt_of_block hb6
          clear hb6 hk6 HQ HPV hxr
          cases hv : pvP f.type X1 with
          | none =>
            rw [hv] at HUS hok HXR
            have hok' : ok = false := hok
            subst hok'
            have HOE : Hid (finP O = none) := by show _ = _; rw [unhide HUS]; rfl
            clear hok hv
            go_wp2_with fail
            go_ret2
            exact ⟨⟨_, false, rfl, by rw [unhide HOE]; rfl⟩, (unhide HB3).narrow (F := fun q => q = g) (unhide HK6) (fun q e => by omega)⟩
          | some p =>
            obtain ⟨y, s⟩ := p
            rw [hv] at HUS hok HXR
            have hok' : ok = true := hok
            subst hok'
            obtain ⟨rfl, rfl⟩ := (unhide HXR) y s rfl
            have hrl := Nat.le_trans (pvP_len hv) hX1
            simp only at HUS
            rw [map_snoc] at HUS
            clear hok hv
            go_wp2_with fail
            go_roundw
            case rel => exact ⟨k + 1, r, [44], true, R ++ [x], rfl, by omega, by go_num, ⟨_, rfl⟩, rfl, hrl, rfl, rfl, by show _ = _; rw [List.length_append, unhide HRL]; rfl, unhide HUS, by show _ = _; rw [(unhide HRA).2]; exact (unhide HST).1, unhide HK6⟩
            case measure => simp [intOf]; omega
      · obtain rfl : k = l.length := by omega
        have HOE : Hid (O = some (R, X)) := by show _ = _; rw [unhide HU, List.drop_length, parP]; simp
        have HBE := unhide HBk
        have HRF : Hid (rowsTo l R l.length = R) := by show _ = _; unfold rowsTo; rw [List.drop_length]; simp [zeros]
        rw [unhide HRF] at HBE
        have HOW := hide (owns_vals (Nat.le_of_lt hgs) (by omega) (unhide HRL) HBE)
        have HKF := hide ((unhide HB3).narrow (F := fun q => q = g) (unhide HKP) (fun q e => by omega))
        clear HBE
        by_cases hX1 : X = [125]
        · have HFP : Hid (finP O = some R) := by show _ = _; rw [unhide HOE]; simp [finP, hX1]
          subst hX1
          go_wp2_with fail
          go_ret2
          exact ⟨⟨_, true, rfl, by rw [unhide HFP]; exact ⟨rfl, unhide HOW⟩⟩, unhide HKF⟩
        · have HFP : Hid (finP O = none) := by show _ = _; rw [unhide HOE]; simp [finP, hX1]
          have hX2 : (X == [125]) = false := by simpa using hX1
          clear hX1
          go_wp2_with fail
          go_ret2
          exact ⟨⟨_, false, rfl, by rw [unhide HFP]; rfl⟩, unhide HKF⟩

set_option maxRecDepth 100000 in
set_option maxHeartbeats 2000000 in
theorem val_parse (l : List FieldA) (v : Value) (t : Txt) (w : World) (hE : Env w) (h : FldsAt w v l) (ht : t.length ≤ 1099511627776) :
    Calls Tryz.prog 16 #[.agg #[v], str t] w fun e w' => ∃ v', e = .returned (.tuple #[v', .int .i64 (parseB l t).2]) ∧ w'.ownsRow w.heap.size 40 3 v' (parseB l t).1.length (vcs (parseB l t).1) ∧ Keeps (fun _ => False) w w' := by
  obtain ⟨ao, cap, rfl⟩ := RowAt.form h
  obtain ⟨HB, hb, hbc⟩ := boxed w #[.slice ao l.length cap] 26
  have hp := hbc 0 (.slice ao l.length cap) rfl
  have HF := hide (h.keepF (unhide HB))
  have HEN := hide (hE.keepF (unhide HB))
  have HS := hide (checkSchema_v l _ _ (unhide HEN).types (unhide HF))
  obtain ⟨D, HD⟩ : ∃ D, Hid (parseB l t = D) := ⟨_, rfl⟩
  rw [unhide HD]
  clear hbc h hE
  go_enter Tryz.func16, Tryz.ntmps16
  go_wp2_with fail
  refine (unhide HS).mono ?_
  rintro e w2 ⟨rfl, hk2⟩
  have hp2 := (hk2.cell (o := 0) hb id).trans hp
  have hb2 : w.heap.size < w2.heap.size := Nat.lt_of_lt_of_le hb hk2.size
  have HF2 := hide ((unhide HF).keepF hk2)
  have HE2 := hide ((unhide HEN).keepF hk2)
  have HB2 := hide ((unhide HB).trans hk2)
  clear HS HF HB hk2 hp hb HEN
  generalize w.alloc (.cells #[.slice ao l.length cap] 26) = w1 at *
  rcases errS_eq l with ⟨hs, he⟩ | ⟨hs, he⟩
  · rw [he]
    have HPE := hide (parse_eq l hs t)
    rw [unhide HD] at HPE
    have HQ := hide (parseItems_v l _ t _ (unhide HE2) (unhide HF2) hs ht)
    generalize (if ([123] : Txt).isPrefixOf t then finP (parP l (t.drop 1) false) else none) = O at *
    clear hs he
    go_wp2_with fail
    refine (unhide HQ).mono ?_
    rintro e w3 ⟨⟨v', ok, rfl, hm⟩, hk3⟩
    have HK3 := hide ((unhide HB2).trans hk3)
    have HM := hide hm
    clear hk3 hm HQ
    cases O with
    | none =>
      have HE : Hid (D = ([], 63)) := unhide HPE
      have hok : ok = false := unhide HM
      subst hok
      go_wp2_with fail
      go_ret2
      refine ⟨.slice none 0 0, by rw [unhide HE]; rfl, ?_, unhide HK3⟩
      rw [unhide HE]
      exact World.ownsRow_nil _ w.heap.size 40 3
    | some r =>
      have HE : Hid (D = (r, 0)) := unhide HPE
      have hok : ok = true := (unhide HM).1
      subst hok
      have HO := hide (unhide HM).2
      go_wp2_with fail
      go_ret2
      refine ⟨v', by rw [unhide HE]; rfl, ?_, unhide HK3⟩
      rw [unhide HE]
      exact ownsRow_lower (unhide HO) (unhide HB2).size
  · rw [he]
    have HE : Hid (D = ([], 60)) := by show _ = _; rw [← unhide HD]; unfold parseB; rw [if_pos hs]
    clear hs he
    go_wp2_with fail
    go_ret2
    refine ⟨.slice none 0 0, by rw [unhide HE]; rfl, ?_, unhide HB2⟩
    rw [unhide HE]
    exact World.ownsRow_nil _ w.heap.size 40 3
end Go.Proofs.YtklkhegeeglfbaaGreatDoor
