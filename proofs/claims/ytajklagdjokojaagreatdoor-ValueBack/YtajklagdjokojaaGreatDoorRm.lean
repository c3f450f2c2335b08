import Derived.Test.YtajklagdjokojaaGreatDoorRl
import Derived.RegionTactic
namespace Go.Proofs.YtajklagdjokojaaGreatDoor
open Go.RowKit Go.Maps

/-- What a reading of a value answers. -/
def TakenP (e : Ending) (o : Option (ValA × Txt)) : Prop := ∃ (x : ValA) (r : Txt) (ok : Bool), e = .returned (.tuple #[.agg #[.int .i64 x.kind, .int .i64 x.n, str x.s], str r, .bool ok]) ∧ ok = o.isSome ∧ ∀ y s, o = some (y, s) → x = y ∧ r = s
theorem TakenP.no {x : ValA} {r : Txt} {o : Option (ValA × Txt)} (h : o = none) : TakenP (.returned (.tuple #[.agg #[.int .i64 x.kind, .int .i64 x.n, str x.s], str r, .bool false])) o := by
  subst h
  exact ⟨x, r, false, rfl, rfl, fun y s e => by cases e⟩
theorem TakenP.yes {x : ValA} {r : Txt} {o : Option (ValA × Txt)} (h : o = some (x, r)) : TakenP (.returned (.tuple #[.agg #[.int .i64 x.kind, .int .i64 x.n, str x.s], str r, .bool true])) o := by
  subst h
  refine ⟨x, r, true, rfl, rfl, fun y s e => ?_⟩
  simp only [Option.some.injEq, Prod.mk.injEq] at e
  exact e
theorem parseInt_err (d : Txt) (hd : d.length ≤ 281474976710656) (w : World) (hE : Env w) (h : ∀ v, Lib.parseIntB 64 d ≠ .ok v) :
    Calls Tryz.prog 134 #[str d, .int .i64 10, .int .i64 64] w fun e w' => (∃ n te pv, e = .returned (.tuple #[.int .i64 n, .iface te pv])) ∧ Keeps (fun _ => False) w w' := by
  cases hp : Lib.parseIntB 64 d with
  | ok v => exact absurd hp (h v)
  | «syntax» =>
    obtain ⟨ev, h1, h2⟩ := hE.synt
    exact (Tryz.strconv_ParseInt_10_at64_syntax ⟨d.toArray⟩ hd hp ev w h1 h2).mono fun e w' ⟨N, he, _, _, hb⟩ => ⟨⟨_, _, _, he⟩, keeps_below hb⟩
  | range =>
    obtain ⟨ev, h1, h2⟩ := hE.rang
    exact (Tryz.strconv_ParseInt_10_at64_range ⟨d.toArray⟩ hd hp ev w h1 h2).mono fun e w' ⟨N, he, _, _, hb⟩ => ⟨⟨_, _, _, he⟩, keeps_below hb⟩
theorem parseInt_ok (d : Txt) (hd : d.length ≤ 281474976710656) (w : World) (v : Int) (h : Lib.parseIntB 64 d = .ok v) :
    Calls Tryz.prog 134 #[str d, .int .i64 10, .int .i64 64] w fun e w' => e = .returned (.tuple #[.int .i64 v, .nilIface]) ∧ Keeps (fun _ => False) w w' := by
  refine (Tryz.strconv_ParseInt_10_at64_ok ⟨d.toArray⟩ (by show d.length ≤ _; omega) v h w).mono fun e w' ⟨he, hw⟩ => ⟨he, ?_⟩
  rcases hw with rfl | ⟨t, rfl⟩
  · exact Keeps.refl _ _
  · exact ⟨rfl, rfl, rfl, by rw [Lib.bytesWorld_size]; omega, fun k hk _ => Lib.bytesWorld_at_old w 5 _ k hk⟩
/-- The result's cell, that a walk writes at its end. -/
theorem cell69 {w w5 : World} (h : Keeps (fun _ => False) (w.alloc (.cells #[.int .i64 0, .int .i64 0, str []] 50)) w5) :
    w5.heap[w.heap.size]? = some (.cells #[.int .i64 0, .int .i64 0, str []] 50 (0, 0)) := by
  rw [h.block _ (by simp) id]
  exact heap_alloc_new w _

set_option maxRecDepth 100000 in
set_option maxHeartbeats 2000000 in
theorem parseInt_v (t : Txt) (w : World) (hE : Env w) (ht : t.length ≤ 1099511627776) :
    Calls Tryz.prog 102 #[str t] w fun e w' => TakenP e (pvP 1 t) ∧ Keeps (fun _ => False) w w' := by
  have HKB : Hid (Keeps (fun _ => False) w (w.alloc (.cells #[.int .i64 0, .int .i64 0, str []] 50))) := (Keeps.refl _ _).alloc _
  have HTL := hide (trimLeft_v t (w.alloc (.cells #[.int .i64 0, .int .i64 0, str []] 50)))
  obtain ⟨d, HDD⟩ : ∃ d : Txt, Hid (t.takeWhile numC = d) := ⟨_, hide rfl⟩
  obtain ⟨r, HRR⟩ : ∃ r : Txt, Hid (t.dropWhile numC = r) := ⟨_, hide rfl⟩
  have HTE : Hid (t = d ++ r) := by show _ = _; rw [← unhide HDD, ← unhide HRR]; exact tw_dw numC t
  have hlen : t.length = d.length + r.length := by conv => lhs; rw [unhide HTE]
                                                   rw [List.length_append]
  have hx : (ByteArray.mk t.toArray).extract 0 d.length = ⟨d.toArray⟩ := by rw [ext_str, List.drop_zero, Nat.sub_zero, unhide HTE, List.take_left]
  rw [unhide HRR] at HTL
  have HPV : Hid (pvP 1 t = if (numberB d).2 then some (⟨1, (numberB d).1, []⟩, r) else none) := by show _ = _; unfold pvP; rw [if_pos rfl, unhide HDD, unhide HRR]
  have HEN := hide (hE.keepF (unhide HKB))
  have hl1 : d.length ≤ 1099511627776 := by omega
  have hl2 : r.length ≤ 1099511627776 := by omega
  have hsub : (t.length : Int) - (r.length : Int) = (d.length : Int) := by omega
  have hle : (d.length : Int) ≤ (t.length : Int) := by omega
  have HLEN := hide hlen
  clear hE hlen
  go_enter Tryz.func102, Tryz.ntmps102
  go_wp2_with fail
  refine (unhide HTL).mono ?_
  rintro e w2 ⟨rfl, hk2⟩
  have HK2 := hide hk2
  have HEN2 := hide ((unhide HEN).keepF hk2)
  clear hk2 HTL
  rcases number_iff d with ⟨v, hp, hdv, hnb⟩ | ⟨hnb, hno⟩
  · have HQ := hide (parseInt_ok d (by omega) w2 v hp)
    obtain ⟨r1, r2⟩ := parseInt_range hp
    have HP : Hid (pvP 1 t = some (⟨1, v, []⟩, r)) := by show _ = _; rw [unhide HPV, hnb]; rfl
    have HDV := hide hdv
    clear hp hdv hnb
    go_wp2_with fail
    refine (unhide HQ).mono ?_
    rintro e w3 ⟨rfl, hk3⟩
    have HF := hide (formatInt_v v r1 r2 w3 ((unhide HEN2).keepF hk3).pow)
    rw [unhide HDV] at HF
    have HK3 := hide ((unhide HK2).trans hk3)
    clear hk3 HQ
    go_wp2_with fail
    refine (unhide HF).mono ?_
    rintro e w4 ⟨rfl, hk4⟩
    have HK4 := hide ((unhide HK3).trans hk4)
    have hb4 := cell69 (unhide HK4)
    have hs := set3 hb4 (.int .i64 1) (.int .i64 v) (str [])
    have f0 := frozen_of_blk hb4 0
    have f1 := frozen_of_blk hb4 1
    have f2 := frozen_of_blk hb4 2
    have q0 : w4.cell? ⟨w.heap.size, 0, none⟩ = some (.int .i64 0) := by rw [cell_of_blk hb4]; rfl
    have q1 : w4.cell? ⟨w.heap.size, 1, none⟩ = some (.int .i64 0) := by rw [cell_of_blk hb4]; rfl
    have q2 : w4.cell? ⟨w.heap.size, 2, none⟩ = some (str []) := by rw [cell_of_blk hb4]; rfl
    obtain ⟨⟨c0, c1, c2⟩, hks⟩ := hs
    have HK5 := hide (((unhide HKB).trans (unhide HK4)).narrow (F := fun q => q = w.heap.size) hks (fun q e => by omega))
    have hlt4 := lt_of_block hb4
    clear hk4 hb4 hks HF
    go_wp2_with fail
    refine bodyPost_ret (v := .tuple #[.agg #[.int .i64 1, .int .i64 v, str []], str r, .bool true]) (by simp [results, go_sem, c0, c1, c2]) rfl ?_
    exact ⟨TakenP.yes (x := ⟨1, v, []⟩) (unhide HP), unhide HK5⟩
  · have HP : Hid (pvP 1 t = none) := by show _ = _; rw [unhide HPV, hnb]; rfl
    by_cases hok : ∃ v, Lib.parseIntB 64 d = .ok v
    · obtain ⟨v, hp⟩ := hok
      have HQ := hide (parseInt_ok d (by omega) w2 v hp)
      obtain ⟨r1, r2⟩ := parseInt_range hp
      obtain ⟨E, HEE⟩ : ∃ E : Txt, Hid (decimal v = E) := ⟨_, hide rfl⟩
      have hne : (E == d) = false := by rw [← unhide HEE]; simpa using hno v hp
      clear hp hno hnb
      go_wp2_with fail
      refine (unhide HQ).mono ?_
      rintro e w3 ⟨rfl, hk3⟩
      have HF := hide (formatInt_v v r1 r2 w3 ((unhide HEN2).keepF hk3).pow)
      rw [unhide HEE] at HF
      have HK3 := hide ((unhide HK2).trans hk3)
      clear hk3 HQ
      go_wp2_with fail
      refine (unhide HF).mono ?_
      rintro e w4 ⟨rfl, hk4⟩
      have HK4 := hide ((unhide HK3).trans hk4)
      clear hk4 HF
      have hb4 := cell69 (unhide HK4)
      have hs := set3 hb4 (.int .i64 0) (.int .i64 0) (str [])
      have f0 := frozen_of_blk hb4 0
      have f1 := frozen_of_blk hb4 1
      have f2 := frozen_of_blk hb4 2
      have q0 : w4.cell? ⟨w.heap.size, 0, none⟩ = some (.int .i64 0) := by rw [cell_of_blk hb4]; rfl
      have q1 : w4.cell? ⟨w.heap.size, 1, none⟩ = some (.int .i64 0) := by rw [cell_of_blk hb4]; rfl
      have q2 : w4.cell? ⟨w.heap.size, 2, none⟩ = some (str []) := by rw [cell_of_blk hb4]; rfl
      obtain ⟨⟨c0, c1, c2⟩, hks⟩ := hs
      have HK5 := hide (((unhide HKB).trans (unhide HK4)).narrow (F := fun q => q = w.heap.size) hks (fun q e => by omega))
      have hlt4 := lt_of_block hb4
      clear hb4 hks
      go_wp2_with fail
      refine bodyPost_ret (v := .tuple #[.agg #[.int .i64 0, .int .i64 0, str []], str [], .bool false]) (by simp [results, go_sem, c0, c1, c2]) rfl ?_
      exact ⟨TakenP.no (x := ⟨0, 0, []⟩) (r := []) (unhide HP), unhide HK5⟩
    · have HQ := hide (parseInt_err d (by omega) w2 (unhide HEN2) (fun v hv => hok ⟨v, hv⟩))
      clear hok hno hnb
      go_wp2_with fail
      refine (unhide HQ).mono ?_
      rintro e w3 ⟨⟨n, te, pv, rfl⟩, hk3⟩
      have HK4 := hide ((unhide HK2).trans hk3)
      clear hk3 HQ
      have hb4 := cell69 (unhide HK4)
      have hs := set3 hb4 (.int .i64 0) (.int .i64 0) (str [])
      have f0 := frozen_of_blk hb4 0
      have f1 := frozen_of_blk hb4 1
      have f2 := frozen_of_blk hb4 2
      have q0 : w3.cell? ⟨w.heap.size, 0, none⟩ = some (.int .i64 0) := by rw [cell_of_blk hb4]; rfl
      have q1 : w3.cell? ⟨w.heap.size, 1, none⟩ = some (.int .i64 0) := by rw [cell_of_blk hb4]; rfl
      have q2 : w3.cell? ⟨w.heap.size, 2, none⟩ = some (str []) := by rw [cell_of_blk hb4]; rfl
      obtain ⟨⟨c0, c1, c2⟩, hks⟩ := hs
      have HK5 := hide (((unhide HKB).trans (unhide HK4)).narrow (F := fun q => q = w.heap.size) hks (fun q e => by omega))
      have hlt4 := lt_of_block hb4
      clear hb4 hks
      go_wp2_with fail
      refine bodyPost_ret (v := .tuple #[.agg #[.int .i64 0, .int .i64 0, str []], str [], .bool false]) (by simp [results, go_sem, c0, c1, c2]) rfl ?_
      exact ⟨TakenP.no (x := ⟨0, 0, []⟩) (r := []) (unhide HP), unhide HK5⟩

theorem pre_eq (s q : Txt) : Lib.hasPrefix s q = q.isPrefixOf s ∧ (q.isPrefixOf s = true → Lib.trimPrefix s q = s.drop q.length) := by
  refine ⟨rfl, fun h => ?_⟩
  unfold Lib.trimPrefix Lib.hasPrefix
  rw [if_pos h]

set_option maxRecDepth 100000 in
set_option maxHeartbeats 2000000 in
theorem parseBool_v (t : Txt) (w : World) :
    Calls Tryz.prog 103 #[str t] w fun e w' => TakenP e (pvP 2 t) ∧ Keeps (fun _ => False) w w' := by
  have HKB : Hid (Keeps (fun _ => False) w (w.alloc (.cells #[.int .i64 0, .int .i64 0, str []] 50))) := (Keeps.refl _ _).alloc _
  have HQ1 := hide (cutPrefix_v t [116, 114, 117, 101] (w.alloc (.cells #[.int .i64 0, .int .i64 0, str []] 50)))
  have HQ2 := hide (cutPrefix_v t [102, 97, 108, 115, 101] (w.alloc (.cells #[.int .i64 0, .int .i64 0, str []] 50)))
  rw [(pre_eq _ _).1] at HQ1 HQ2
  have HPV : Hid (pvP 2 t = if trueT.isPrefixOf t then some (⟨2, 1, []⟩, t.drop 4) else if falseT.isPrefixOf t then some (⟨2, 0, []⟩, t.drop 5) else none) := by show _ = _; unfold pvP; rw [if_neg (by omega), if_pos rfl]
  cases h1 : List.isPrefixOf ([116, 114, 117, 101] : Txt) t with
  | true =>
    have HP : Hid (pvP 2 t = some (⟨2, 1, []⟩, t.drop 4)) := by show _ = _; rw [unhide HPV, if_pos (show trueT.isPrefixOf t = true from h1)]
    rw [h1, (pre_eq _ _).2 h1] at HQ1
    rw [show ([116, 114, 117, 101] : Txt).length = 4 from rfl] at HQ1
    clear h1
    generalize t.drop 4 = R at *
    go_enter Tryz.func103, Tryz.ntmps103
    go_wp2_with fail
    refine (unhide HQ1).mono ?_
    rintro e w2 ⟨rfl, rfl⟩
    go_wp2_with fail
    refine bodyPost_ret (v := .tuple #[.agg #[.int .i64 2, .int .i64 1, str []], str R, .bool true]) (by simp [results, go_sem]) rfl ?_
    exact ⟨TakenP.yes (x := ⟨2, 1, []⟩) (unhide HP), (Keeps.refl _ _).alloc _⟩
  | false =>
    rw [h1] at HQ1
    cases h2 : List.isPrefixOf ([102, 97, 108, 115, 101] : Txt) t with
    | true =>
      have HP : Hid (pvP 2 t = some (⟨2, 0, []⟩, t.drop 5)) := by show _ = _; rw [unhide HPV, if_neg (show ¬ trueT.isPrefixOf t = true by unfold trueT; rw [h1]; simp), if_pos (show falseT.isPrefixOf t = true from h2)]
      rw [h2, (pre_eq _ _).2 h2] at HQ2
      rw [show ([102, 97, 108, 115, 101] : Txt).length = 5 from rfl] at HQ2
      clear h1 h2
      generalize t.drop 5 = R at *
      go_enter Tryz.func103, Tryz.ntmps103
      go_wp2_with fail
      refine (unhide HQ1).mono ?_
      rintro e w2 ⟨rfl, rfl⟩
      go_wp2_with fail
      refine (unhide HQ2).mono ?_
      rintro e w2 ⟨rfl, rfl⟩
      go_wp2_with fail
      refine bodyPost_ret (v := .tuple #[.agg #[.int .i64 2, .int .i64 0, str []], str R, .bool true]) (by simp [results, go_sem]) rfl ?_
      exact ⟨TakenP.yes (x := ⟨2, 0, []⟩) (unhide HP), (Keeps.refl _ _).alloc _⟩
    | false =>
      have HP : Hid (pvP 2 t = none) := by show _ = _; rw [unhide HPV, if_neg (show ¬ trueT.isPrefixOf t = true by unfold trueT; rw [h1]; simp), if_neg (show ¬ falseT.isPrefixOf t = true by unfold falseT; rw [h2]; simp)]
      rw [h2] at HQ2
      clear h1 h2
      generalize Lib.trimPrefix t [102, 97, 108, 115, 101] = R at *
      go_enter Tryz.func103, Tryz.ntmps103
      go_wp2_with fail
      refine (unhide HQ1).mono ?_
      rintro e w2 ⟨rfl, rfl⟩
      go_wp2_with fail
      refine (unhide HQ2).mono ?_
      rintro e w2 ⟨rfl, rfl⟩
      go_wp2_with fail
      refine bodyPost_ret (v := .tuple #[.agg #[.int .i64 2, .int .i64 0, str []], str R, .bool false]) (by simp [results, go_sem]) rfl ?_
      exact ⟨TakenP.no (x := ⟨2, 0, []⟩) (r := R) (unhide HP), (Keeps.refl _ _).alloc _⟩
end Go.Proofs.YtajklagdjokojaaGreatDoor
