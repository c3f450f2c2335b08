import Derived.Test.YtcicaifioghciaaGreatDoorJzan
namespace Go.Proofs.YtcicaifioghciaaGreatDoor
open Go.RowKit Go.Maps
/-- What the reference takes and gives, in letters. -/
def takesR (S : List FieldA) (i : ValA) (t : Txt) : Txt × Txt :=
  (if i.kind = 15 ∨ i.kind = 16 ∨ i.kind = 17 then t ++ t else List.replicate (opA i.kind).takes (letR (ofF S i (opA i.kind).of)),
   if (opA i.kind).gives = 0 then [] else [letR (ofF S i (opA i.kind).gives)])
set_option maxRecDepth 100000 in
set_option maxHeartbeats 4000000 in
theorem takesR_v (S : List FieldA) (so : Option Addr) (sc : Nat) (i : ValA) (t : Txt) (w : World) (hS : FldsAt w (.slice so S.length sc) S) (hf : formB i = 0) (hr : rightF S i = true) (ht : t.length ≤ 16) :
    Calls Tryz.prog 63 #[.agg #[.slice so S.length sc], i.v, str t] w fun e w' => e = .returned (.tuple #[str (takesR S i t).1, str (takesR S i t).2]) ∧ Keeps (fun _ => False) w w' := by
  have hop := op_cases (formB_zero hf).1
  have hn1 := fun q : (opA i.kind).of = 4 ∨ (opA i.kind).gives = 4 => names_ok hf hr q
  have HT : Hid (takesR S i t = takesR S i t) := rfl
  have HFT : Hid (fldT S i = ((S[i.n.toNat]?).map FieldA.type).getD 0) := rfl
  obtain ⟨kd, n, s⟩ := i
  unfold ValA.v
  simp only at *
  obtain ⟨HX, hxb, hxc⟩ := boxed w #[.slice so S.length sc] 24
  obtain ⟨HY, hyb, hyc⟩ := boxed (w.alloc (.cells #[.slice so S.length sc] 24)) #[.int .i64 kd, .int .i64 n, str s] 51
  have x0 := ((unhide HY).cell hxb id).trans (hxc 0 (.slice so S.length sc) rfl)
  have y0 := hyc 0 (.int .i64 kd) rfl
  have y1 := hyc 1 (.int .i64 n) rfl
  rw [World.size_alloc] at y0 y1
  have HK := hide ((unhide HX).trans (unhide HY))
  have HS := hide (hS.keepF (unhide HK))
  generalize hW : ((w.alloc (.cells #[.slice so S.length sc] 24)).alloc (.cells #[.int .i64 kd, .int .i64 n, str s] 51)) = W at *
  clear hxc hyc HX HY hxb hyb hS hf hr
  simp only [List.mem_cons, List.not_mem_nil, or_false] at hop
  by_cases h5 : kd = 5 ∨ kd = 20
  · have hnn : 0 ≤ n ∧ n < S.length := hn1 (by rcases h5 with rfl | rfl; exact Or.inr rfl; exact Or.inl rfl)
    obtain ⟨n0, n1⟩ := hnn
    obtain ⟨p, rfl⟩ := Int.eq_ofNat_of_zero_le n0
    obtain ⟨f, hf⟩ : ∃ f, S[p]? = some f := ⟨_, List.getElem?_eq_getElem (by omega)⟩
    obtain ⟨fb, foff, fc, fe, hfb, hfc⟩ := (unhide HS).cells (by omega)
    simp only [Value.slice.injEq] at fe
    obtain ⟨rfl, _, rfl⟩ := fe
    have c1 := (hfc p f hf).2.1
    have HFE : Hid (fldT S ⟨kd, p, s⟩ = f.type) := by show _ = _; rw [unhide HFT]; simp [hf]
    have HKV := hide (fun w' => kind_v f.type w')
    clear hfc hf HFT hn1 HS
    rcases h5 with rfl | rfl
    · have HTT : Hid (takesR S ⟨5, p, s⟩ t = ([], [letR f.type])) := by
        show _ = _
        rw [← unhide HFE]
        rfl
      clear HFE HT
      go_enter Tryz.func63, Tryz.ntmps63
      go_wp2_with fail
      refine ((unhide HKV) _).mono ?_
      rintro e w2 ⟨rfl, rfl⟩
      go_wp2_with fail
      go_ret2
      rw [unhide HTT]
      exact ⟨rfl, unhide HK⟩
    · have HTT : Hid (takesR S ⟨20, p, s⟩ t = ([letR f.type], [])) := by
        show _ = _
        rw [← unhide HFE]
        rfl
      clear HFE HT
      go_enter Tryz.func63, Tryz.ntmps63
      go_wp2_with fail
      refine ((unhide HKV) _).mono ?_
      rintro e w2 ⟨rfl, rfl⟩
      go_wp2_with fail
      go_ret2
      rw [unhide HTT]
      exact ⟨rfl, unhide HK⟩
  · by_cases h15 : kd = 15 ∨ kd = 16 ∨ kd = 17
    · have hadd : ∀ w' : World, (Op.stringOp .add (ByteArray.mk t.toArray) (ByteArray.mk t.toArray)).run Tryz.prog w' = .ok (str (t ++ t)) w' := fun w' => add_str w' t t (by omega)
      clear hn1 HS HFT x0 y1
      rcases h15 with rfl | rfl | rfl
      all_goals
        go_enter Tryz.func63, Tryz.ntmps63
        go_wp2_with fail
        go_ret2
        exact ⟨rfl, unhide HK⟩
    · clear hn1 HS HFT x0 y1
      rcases hop with rfl | rfl | rfl | rfl | rfl | rfl | rfl | rfl | rfl | rfl | rfl | rfl | rfl | rfl | rfl | rfl | rfl | rfl | rfl | rfl | rfl | rfl | rfl | rfl | rfl | rfl
      all_goals first
        | (exfalso; omega)
        | (go_enter Tryz.func63, Tryz.ntmps63
           go_wp2_with fail
           go_ret2
           exact ⟨rfl, unhide HK⟩)

end Go.Proofs.YtcicaifioghciaaGreatDoor
namespace Go.Proofs.YtcicaifioghciaaGreatDoor
open Go.RowKit Go.Maps
theorem ext_drop (q : Txt) (U : Nat) : ((ByteArray.mk q.toArray).extract U q.length).toList = q.drop U := by
  rw [ext_str, List.take_of_length_le (by rw [List.length_drop]; omega)]
  simp
def endsB (q r : Txt) : Bool := decide (r.length ≤ q.length) && decide (q.drop (q.length - r.length) = r)
set_option maxRecDepth 100000 in
set_option maxHeartbeats 1000000 in
theorem ends_v (q r : Txt) (w : World) (hq : q.length ≤ 4096) (hr : r.length ≤ 4096) : Calls Tryz.prog 64 #[str q, str r] w fun e w' => e = .returned (.bool (endsB q r)) ∧ Keeps (fun _ => False) w w' := by
  by_cases h : r.length ≤ q.length
  · have j1 : (r.length : Int) ≤ (q.length : Int) := by omega
    have j2 : (0 : Int) ≤ (q.length : Int) - (r.length : Int) := by omega
    have j3 : (q.length : Int) - (r.length : Int) ≤ (q.length : Int) := by omega
    obtain ⟨U, hU⟩ : ∃ U, U + r.length = q.length := ⟨q.length - r.length, by omega⟩
    have hUT : (q.length : Int) - (r.length : Int) = (U : Int) := by omega
    have HE : Hid (endsB q r = decide (q.drop U = r)) := by
      show _ = _
      unfold endsB
      rw [decide_eq_true h, show q.length - r.length = U by omega]
      rfl
    go_enter Tryz.func64, Tryz.ntmps64
    go_wp2
    go_ret
    refine ⟨ret_bool ?_, Keeps.refl _ _⟩
    rw [unhide HE, ext_drop, Bool.eq_iff_iff, beq_iff_eq, decide_eq_true_iff]
  · have j1 : ¬ (r.length : Int) ≤ (q.length : Int) := by omega
    have HE : Hid (endsB q r = false) := by show _ = _; unfold endsB; rw [decide_eq_false h]; rfl
    go_enter Tryz.func64, Tryz.ntmps64
    go_wp2
    go_ret
    exact ⟨ret_bool (unhide HE).symm, Keeps.refl _ _⟩

end Go.Proofs.YtcicaifioghciaaGreatDoor
namespace Go.Proofs.YtcicaifioghciaaGreatDoor
open Go.RowKit Go.Maps
/-- The letter that a comparison goes by. -/
def topR (i : ValA) (q : Txt) : Txt := if (if q = [] then [105] else q.drop (q.length - 1)) = [98] ∧ i.kind ≠ 17 then [105] else if q = [] then [105] else q.drop (q.length - 1)
def behR (S : List FieldA) (i : ValA) (q : Txt) : Txt × Bool :=
  if endsB q (takesR S i (topR i q)).1 = false then ([], false)
  else (q.take (q.length - (takesR S i (topR i q)).1.length) ++ (takesR S i (topR i q)).2, decide ((q.take (q.length - (takesR S i (topR i q)).1.length) ++ (takesR S i (topR i q)).2).length ≤ 16))
theorem str_from (q : Txt) (U : Nat) (h : U ≤ q.length) (W : World) : (Instr.sliceAt 9 (str q) (some (.int .i64 (U : Int))) none none).run Tryz.prog W = .ok (str (q.drop U)) W := by
  have j0 : (0 : Int) ≤ (U : Int) := by omega
  have j1 : (U : Int) ≤ (q.length : Int) := by omega
  have e : (ByteArray.mk q.toArray).extract U q.length = ⟨(q.drop U).toArray⟩ := by rw [ext_str, List.take_of_length_le (by rw [List.length_drop]; omega)]
  simp [go_sem, j0, j1, e, str]
theorem str_to (q : Txt) (U : Nat) (h : U ≤ q.length) (W : World) : (Instr.sliceAt 9 (str q) none (some (.int .i64 (U : Int))) none).run Tryz.prog W = .ok (str (q.take U)) W := by
  have j0 : (0 : Int) ≤ (U : Int) := by omega
  have j1 : (U : Int) ≤ (q.length : Int) := by omega
  have e : (ByteArray.mk q.toArray).extract 0 U = ⟨(q.take U).toArray⟩ := by rw [ext_str]; simp
  simp [go_sem, j0, j1, e, str]
set_option maxRecDepth 100000 in
set_option maxHeartbeats 4000000 in
theorem behindR_v (S : List FieldA) (so : Option Addr) (sc : Nat) (i : ValA) (q : Txt) (w : World) (hS : FldsAt w (.slice so S.length sc) S) (hf : formB i = 0) (hr : rightF S i = true) (hq : q.length ≤ 4096) :
    Calls Tryz.prog 41 #[.agg #[.slice so S.length sc], i.v, str q] w fun e w' => e = .returned (.tuple #[str (behR S i q).1, .bool (behR S i q).2]) ∧ Keeps (fun _ => False) w w' := by
  have HQ := hide (fun (t : Txt) (w' : World) (b : FldsAt w' (.slice so S.length sc) S) (c : t.length ≤ 16) => takesR_v S so sc i t w' b hf hr c)
  have htk := op_small _ (op_cases (formB_zero hf).1)
  have HTL : Hid (∀ t : Txt, t.length ≤ 1 → (takesR S i t).1.length ≤ 4096 ∧ (takesR S i t).2.length ≤ 4096) := fun t ht => by
    unfold takesR
    constructor
    · show List.length (if _ then _ else _) ≤ 4096
      split
      · simp; omega
      · simp; omega
    · show List.length (if _ then _ else _) ≤ 4096
      split <;> simp
  have HBR : Hid (behR S i q = if endsB q (takesR S i (topR i q)).1 = false then ([], false) else (q.take (q.length - (takesR S i (topR i q)).1.length) ++ (takesR S i (topR i q)).2, decide ((q.take (q.length - (takesR S i (topR i q)).1.length) ++ (takesR S i (topR i q)).2).length ≤ 16))) := rfl
  have HTQ : Hid (topR i q = if (if q = [] then [105] else q.drop (q.length - 1)) = [98] ∧ i.kind ≠ 17 then [105] else if q = [] then [105] else q.drop (q.length - 1)) := rfl
  obtain ⟨kd, n, s⟩ := i
  unfold ValA.v at *
  simp only at *
  generalize topR ⟨kd, n, s⟩ q = TP at *
  generalize behR S ⟨kd, n, s⟩ q = R at *
  obtain ⟨HX, hxb, hxc⟩ := boxed w #[.slice so S.length sc] 24
  obtain ⟨HY, hyb, hyc⟩ := boxed (w.alloc (.cells #[.slice so S.length sc] 24)) #[.int .i64 kd, .int .i64 n, str s] 51
  have x0 := ((unhide HY).cell hxb id).trans (hxc 0 (.slice so S.length sc) rfl)
  have y0 := hyc 0 (.int .i64 kd) rfl
  have y1 := hyc 1 (.int .i64 n) rfl
  have y2 := hyc 2 (str s) rfl
  rw [World.size_alloc] at y0 y1 y2
  have HK := hide ((unhide HX).trans (unhide HY))
  have HS := hide (hS.keepF (unhide HK))
  generalize hW : ((w.alloc (.cells #[.slice so S.length sc] 24)).alloc (.cells #[.int .i64 kd, .int .i64 n, str s] 51)) = W at *
  clear hxc hyc HX HY hxb hyb hS hf hr htk
  by_cases h0 : q = []
  · have HTP : Hid (TP = [105]) := by show _ = _; rw [unhide HTQ, if_neg (by rw [if_pos h0]; intro h; cases h.1), if_pos h0]
    have j0 : ¬ (0 : Int) < (q.length : Int) := by rw [h0]; simp
    clear HTQ h0
    go_enter Tryz.func41, Tryz.ntmps41
    have HT0 := hide ((unhide HQ) [105] W (unhide HS) (by simp))
    go_wp2_with fail
    refine (unhide HT0).mono ?_
    rintro e w2 ⟨rfl, hk2⟩
    have HK2 := hide ((unhide HK).trans hk2)
    have HEN := hide (ends_v q (takesR S ⟨kd, n, s⟩ [105]).1 w2 hq ((unhide HTL) [105] (by simp)).1)
    have htl := (unhide HTL) [105] (by simp)
    have HB2 : Hid (R = if endsB q (takesR S ⟨kd, n, s⟩ [105]).1 = false then ([], false) else (q.take (q.length - (takesR S ⟨kd, n, s⟩ [105]).1.length) ++ (takesR S ⟨kd, n, s⟩ [105]).2, decide ((q.take (q.length - (takesR S ⟨kd, n, s⟩ [105]).1.length) ++ (takesR S ⟨kd, n, s⟩ [105]).2).length ≤ 16))) := by
      show _ = _
      rw [unhide HBR, unhide HTP]
    have hle : endsB q (takesR S ⟨kd, n, s⟩ [105]).1 = true → (takesR S ⟨kd, n, s⟩ [105]).1.length ≤ q.length := fun h => by
      unfold endsB at h
      simp at h
      exact h.1
    generalize endsB q (takesR S ⟨kd, n, s⟩ [105]).1 = EB at *
    generalize takesR S ⟨kd, n, s⟩ [105] = TK at *
    obtain ⟨ti, to⟩ := TK
    simp only at *
    clear hk2 HT0 HBR HTP HQ HTL
    go_wp2_with fail
    refine (unhide HEN).mono ?_
    rintro e w3 ⟨rfl, hk3⟩
    have HK3 := hide ((unhide HK2).trans hk3)
    clear hk3 HEN HK2
    cases EB with
    | false =>
      have HE : Hid (R = ([], false)) := unhide HB2
      clear HB2
      go_wp2_with fail
      go_ret2
      rw [unhide HE]
      exact ⟨rfl, unhide HK3⟩
    | true =>
      have hlq := hle rfl
      have HE : Hid (R = (q.take (q.length - ti.length) ++ to, decide ((q.take (q.length - ti.length) ++ to).length ≤ 16))) := unhide HB2
      obtain ⟨V, hV⟩ : ∃ V, V + ti.length = q.length := ⟨q.length - ti.length, by omega⟩
      have hVT : (q.length : Int) - (ti.length : Int) = (V : Int) := by omega
      rw [show q.length - ti.length = V by omega] at HE
      have hsl := str_to q V (by omega)
      have hadd : ∀ w' : World, (Op.stringOp .add (ByteArray.mk (q.take V).toArray) (ByteArray.mk to.toArray)).run Tryz.prog w' = .ok (str (q.take V ++ to)) w' := fun w' => add_str w' _ _ (by rw [List.length_take]; omega)
      generalize q.take V ++ to = Q2 at *
      rw [show decide (Q2.length ≤ 16) = decide ((Q2.length : Int) ≤ 16) from decide_eq_decide.2 (by omega)] at HE
      clear HB2 hle
      go_wp2_with fail
      go_ret2
      rw [unhide HE]
      exact ⟨rfl, unhide HK3⟩
  · have hpos : 0 < q.length := by rcases Nat.eq_zero_or_pos q.length with h | h; exact absurd (List.eq_nil_of_length_eq_zero h) h0; exact h
    obtain ⟨U, hU⟩ : ∃ U, U + 1 = q.length := ⟨q.length - 1, by omega⟩
    have j0 : (0 : Int) < (q.length : Int) := by omega
    have hUT : (q.length : Int) - 1 = (U : Int) := by omega
    have hfr := str_from q U (by omega)
    obtain ⟨c, hc⟩ : ∃ c, q.drop U = [c] := by
      have h1 : (q.drop U).length = 1 := by rw [List.length_drop]; omega
      match hd : q.drop U, h1 with
      | [c], _ => exact ⟨c, rfl⟩
    rw [hc] at hfr
    have HTQ2 : Hid (TP = if [c] = [98] ∧ kd ≠ 17 then [105] else [c]) := by
      show _ = _
      rw [unhide HTQ, if_neg h0, show q.length - 1 = U by omega, hc]
    clear HTQ h0 hc
    by_cases hb : c = 98
    · subst hb
      by_cases hk : kd = 17
      · have HTP : Hid (TP = [98]) := by show _ = _; rw [unhide HTQ2, if_neg (fun h => h.2 hk)]
        have bk : (kd != 17) = false := by simpa using hk
        clear HTQ2 hk
        go_enter Tryz.func41, Tryz.ntmps41
        have HT0 := hide ((unhide HQ) [98] W (unhide HS) (by simp))
        go_wp2_with fail
        refine (unhide HT0).mono ?_
        rintro e w2 ⟨rfl, hk2⟩
        have HK2 := hide ((unhide HK).trans hk2)
        have HEN := hide (ends_v q (takesR S ⟨kd, n, s⟩ [98]).1 w2 hq ((unhide HTL) [98] (by simp)).1)
        have htl := (unhide HTL) [98] (by simp)
        have HB2 : Hid (R = if endsB q (takesR S ⟨kd, n, s⟩ [98]).1 = false then ([], false) else (q.take (q.length - (takesR S ⟨kd, n, s⟩ [98]).1.length) ++ (takesR S ⟨kd, n, s⟩ [98]).2, decide ((q.take (q.length - (takesR S ⟨kd, n, s⟩ [98]).1.length) ++ (takesR S ⟨kd, n, s⟩ [98]).2).length ≤ 16))) := by
          show _ = _
          rw [unhide HBR, unhide HTP]
        have hle : endsB q (takesR S ⟨kd, n, s⟩ [98]).1 = true → (takesR S ⟨kd, n, s⟩ [98]).1.length ≤ q.length := fun h => by
          unfold endsB at h
          simp at h
          exact h.1
        generalize endsB q (takesR S ⟨kd, n, s⟩ [98]).1 = EB at *
        generalize takesR S ⟨kd, n, s⟩ [98] = TK at *
        obtain ⟨ti, to⟩ := TK
        simp only at *
        clear hk2 HT0 HBR HTP HQ HTL
        go_wp2_with fail
        refine (unhide HEN).mono ?_
        rintro e w3 ⟨rfl, hk3⟩
        have HK3 := hide ((unhide HK2).trans hk3)
        clear hk3 HEN HK2
        cases EB with
        | false =>
          have HE : Hid (R = ([], false)) := unhide HB2
          clear HB2
          go_wp2_with fail
          go_ret2
          rw [unhide HE]
          exact ⟨rfl, unhide HK3⟩
        | true =>
          have hlq := hle rfl
          have HE : Hid (R = (q.take (q.length - ti.length) ++ to, decide ((q.take (q.length - ti.length) ++ to).length ≤ 16))) := unhide HB2
          obtain ⟨V, hV⟩ : ∃ V, V + ti.length = q.length := ⟨q.length - ti.length, by omega⟩
          have hVT : (q.length : Int) - (ti.length : Int) = (V : Int) := by omega
          rw [show q.length - ti.length = V by omega] at HE
          have hsl := str_to q V (by omega)
          have hadd : ∀ w' : World, (Op.stringOp .add (ByteArray.mk (q.take V).toArray) (ByteArray.mk to.toArray)).run Tryz.prog w' = .ok (str (q.take V ++ to)) w' := fun w' => add_str w' _ _ (by rw [List.length_take]; omega)
          generalize q.take V ++ to = Q2 at *
          rw [show decide (Q2.length ≤ 16) = decide ((Q2.length : Int) ≤ 16) from decide_eq_decide.2 (by omega)] at HE
          clear HB2 hle
          go_wp2_with fail
          go_ret2
          rw [unhide HE]
          exact ⟨rfl, unhide HK3⟩
      · have HTP : Hid (TP = [105]) := by show _ = _; rw [unhide HTQ2, if_pos ⟨rfl, hk⟩]
        have bk : (kd != 17) = true := by simpa using hk
        clear HTQ2 hk
        go_enter Tryz.func41, Tryz.ntmps41
        have HT0 := hide ((unhide HQ) [105] W (unhide HS) (by simp))
        go_wp2_with fail
        refine (unhide HT0).mono ?_
        rintro e w2 ⟨rfl, hk2⟩
        have HK2 := hide ((unhide HK).trans hk2)
        have HEN := hide (ends_v q (takesR S ⟨kd, n, s⟩ [105]).1 w2 hq ((unhide HTL) [105] (by simp)).1)
        have htl := (unhide HTL) [105] (by simp)
        have HB2 : Hid (R = if endsB q (takesR S ⟨kd, n, s⟩ [105]).1 = false then ([], false) else (q.take (q.length - (takesR S ⟨kd, n, s⟩ [105]).1.length) ++ (takesR S ⟨kd, n, s⟩ [105]).2, decide ((q.take (q.length - (takesR S ⟨kd, n, s⟩ [105]).1.length) ++ (takesR S ⟨kd, n, s⟩ [105]).2).length ≤ 16))) := by
          show _ = _
          rw [unhide HBR, unhide HTP]
        have hle : endsB q (takesR S ⟨kd, n, s⟩ [105]).1 = true → (takesR S ⟨kd, n, s⟩ [105]).1.length ≤ q.length := fun h => by
          unfold endsB at h
          simp at h
          exact h.1
        generalize endsB q (takesR S ⟨kd, n, s⟩ [105]).1 = EB at *
        generalize takesR S ⟨kd, n, s⟩ [105] = TK at *
        obtain ⟨ti, to⟩ := TK
        simp only at *
        clear hk2 HT0 HBR HTP HQ HTL
        go_wp2_with fail
        refine (unhide HEN).mono ?_
        rintro e w3 ⟨rfl, hk3⟩
        have HK3 := hide ((unhide HK2).trans hk3)
        clear hk3 HEN HK2
        cases EB with
        | false =>
          have HE : Hid (R = ([], false)) := unhide HB2
          clear HB2
          go_wp2_with fail
          go_ret2
          rw [unhide HE]
          exact ⟨rfl, unhide HK3⟩
        | true =>
          have hlq := hle rfl
          have HE : Hid (R = (q.take (q.length - ti.length) ++ to, decide ((q.take (q.length - ti.length) ++ to).length ≤ 16))) := unhide HB2
          obtain ⟨V, hV⟩ : ∃ V, V + ti.length = q.length := ⟨q.length - ti.length, by omega⟩
          have hVT : (q.length : Int) - (ti.length : Int) = (V : Int) := by omega
          rw [show q.length - ti.length = V by omega] at HE
          have hsl := str_to q V (by omega)
          have hadd : ∀ w' : World, (Op.stringOp .add (ByteArray.mk (q.take V).toArray) (ByteArray.mk to.toArray)).run Tryz.prog w' = .ok (str (q.take V ++ to)) w' := fun w' => add_str w' _ _ (by rw [List.length_take]; omega)
          generalize q.take V ++ to = Q2 at *
          rw [show decide (Q2.length ≤ 16) = decide ((Q2.length : Int) ≤ 16) from decide_eq_decide.2 (by omega)] at HE
          clear HB2 hle
          go_wp2_with fail
          go_ret2
          rw [unhide HE]
          exact ⟨rfl, unhide HK3⟩
    · have HTP : Hid (TP = [c]) := by show _ = _; rw [unhide HTQ2, if_neg (fun h => hb (by simpa using h.1))]
      have bc : (c == 98) = false := by simpa using hb
      clear HTQ2
      go_enter Tryz.func41, Tryz.ntmps41
      have HT0 := hide ((unhide HQ) [c] W (unhide HS) (by simp))
      go_wp2_with fail
      refine (unhide HT0).mono ?_
      rintro e w2 ⟨rfl, hk2⟩
      have HK2 := hide ((unhide HK).trans hk2)
      have HEN := hide (ends_v q (takesR S ⟨kd, n, s⟩ [c]).1 w2 hq ((unhide HTL) [c] (by simp)).1)
      have htl := (unhide HTL) [c] (by simp)
      have HB2 : Hid (R = if endsB q (takesR S ⟨kd, n, s⟩ [c]).1 = false then ([], false) else (q.take (q.length - (takesR S ⟨kd, n, s⟩ [c]).1.length) ++ (takesR S ⟨kd, n, s⟩ [c]).2, decide ((q.take (q.length - (takesR S ⟨kd, n, s⟩ [c]).1.length) ++ (takesR S ⟨kd, n, s⟩ [c]).2).length ≤ 16))) := by
        show _ = _
        rw [unhide HBR, unhide HTP]
      have hle : endsB q (takesR S ⟨kd, n, s⟩ [c]).1 = true → (takesR S ⟨kd, n, s⟩ [c]).1.length ≤ q.length := fun h => by
        unfold endsB at h
        simp at h
        exact h.1
      generalize endsB q (takesR S ⟨kd, n, s⟩ [c]).1 = EB at *
      generalize takesR S ⟨kd, n, s⟩ [c] = TK at *
      obtain ⟨ti, to⟩ := TK
      simp only at *
      clear hk2 HT0 HBR HTP HQ HTL
      go_wp2_with fail
      refine (unhide HEN).mono ?_
      rintro e w3 ⟨rfl, hk3⟩
      have HK3 := hide ((unhide HK2).trans hk3)
      clear hk3 HEN HK2
      cases EB with
      | false =>
        have HE : Hid (R = ([], false)) := unhide HB2
        clear HB2
        go_wp2_with fail
        go_ret2
        rw [unhide HE]
        exact ⟨rfl, unhide HK3⟩
      | true =>
        have hlq := hle rfl
        have HE : Hid (R = (q.take (q.length - ti.length) ++ to, decide ((q.take (q.length - ti.length) ++ to).length ≤ 16))) := unhide HB2
        obtain ⟨V, hV⟩ : ∃ V, V + ti.length = q.length := ⟨q.length - ti.length, by omega⟩
        have hVT : (q.length : Int) - (ti.length : Int) = (V : Int) := by omega
        rw [show q.length - ti.length = V by omega] at HE
        have hsl := str_to q V (by omega)
        have hadd : ∀ w' : World, (Op.stringOp .add (ByteArray.mk (q.take V).toArray) (ByteArray.mk to.toArray)).run Tryz.prog w' = .ok (str (q.take V ++ to)) w' := fun w' => add_str w' _ _ (by rw [List.length_take]; omega)
        generalize q.take V ++ to = Q2 at *
        rw [show decide (Q2.length ≤ 16) = decide ((Q2.length : Int) ≤ 16) from decide_eq_decide.2 (by omega)] at HE
        clear HB2 hle
        go_wp2_with fail
        go_ret2
        rw [unhide HE]
        exact ⟨rfl, unhide HK3⟩

end Go.Proofs.YtcicaifioghciaaGreatDoor
namespace Go.Proofs.YtcicaifioghciaaGreatDoor
open Go.RowKit Go.Maps
/-- Does the instruction x at k lead to a place? -/
def leadsB (k : Nat) (x : ValA) (p : Nat) : Bool := (decide (x.kind = 25 ∨ x.kind = 26) && decide (k + 1 + x.n.toNat = p)) || (decide (x.kind ≠ 25) && decide (k + 1 = p))
set_option maxRecDepth 100000 in
set_option maxHeartbeats 2000000 in
theorem leads_v (l : List ValA) (v : Value) (w : World) (h : ValsAt w v l) (k p : Nat) (x : ValA) (hx : l[k]? = some x) (hl : l.length ≤ 96) (hf : formB x = 0) (hp : p ≤ 4096) :
    Calls Tryz.prog 40 #[v, .int .i64 (k : Int), .int .i64 (p : Int)] w fun e w' => e = .returned (.bool (leadsB k x p)) ∧ Keeps (fun _ => False) w w' := by
  obtain ⟨ao, cap, rfl⟩ := RowAt.form h
  have hk := (List.getElem?_eq_some_iff.1 hx).1
  have HV := hide h
  obtain ⟨b, off, c, e, hbl, hc⟩ := h.cells (by omega)
  simp at e
  obtain ⟨rfl, rfl⟩ := e
  have c0 := (hc k x hx).1
  have i2 : (k : Int) < (l.length : Int) := by omega
  have i0' : (0 : Int) ≤ (k : Int) := by omega
  have h6 := (opd_kind _ (op_cases (formB_zero hf).1)).2.2.1
  have HTV : Hid (x.kind = 25 ∨ x.kind = 26 → Calls Tryz.prog 62 #[.slice (some ⟨b, off, none⟩) l.length cap, .int .i64 (k : Int)] w fun e w' => e = .returned (.int .i64 ((k + 1 + x.n.toNat : Nat) : Int)) ∧ Keeps (fun _ => False) w w') := fun q => refTarget_v l _ w h k x hx hl (form_jump hf (h6.2 q)).1 (form_jump hf (h6.2 q)).2
  have HL : Hid (leadsB k x p = ((decide (x.kind = 25 ∨ x.kind = 26) && decide (k + 1 + x.n.toNat = p)) || (decide (x.kind ≠ 25) && decide (k + 1 = p)))) := rfl
  generalize leadsB k x p = R at *
  generalize k + 1 + x.n.toNat = TG at *
  generalize x.kind = kd at *
  clear hc hx hf h6 h
  by_cases hj : kd = 25 ∨ kd = 26
  · have HT := hide ((unhide HTV) hj)
    clear HTV
    by_cases ht : TG = p
    · have HE : Hid (R = true) := by show _ = _; rw [unhide HL, decide_eq_true hj, decide_eq_true ht]; rfl
      subst ht
      clear HL
      rcases hj with rfl | rfl
      all_goals
        go_enter Tryz.func40, Tryz.ntmps40
        go_wp2_with fail
        refine (unhide HT).mono ?_
        rintro e w2 ⟨rfl, hk2⟩
        go_wp2_with fail
        go_ret
        exact ⟨ret_bool (unhide HE).symm, hk2⟩
    · have HN := hide ht
      have bt : ((TG : Int) == (p : Int)) = false := by simp; omega
      rcases hj with rfl | rfl
      · have HE : Hid (R = false) := by show _ = _; rw [unhide HL, decide_eq_false (unhide HN)]; rfl
        clear HL ht
        go_enter Tryz.func40, Tryz.ntmps40
        go_wp2_with fail
        refine (unhide HT).mono ?_
        rintro e w2 ⟨rfl, hk2⟩
        have c0' := (hk2.cell hbl id).trans c0
        go_wp2_with fail
        go_ret
        exact ⟨ret_bool (unhide HE).symm, hk2⟩
      · have HE : Hid (R = decide (k + 1 = p)) := by show _ = _; rw [unhide HL, decide_eq_false (unhide HN)]; rfl
        clear HL ht
        go_enter Tryz.func40, Tryz.ntmps40
        go_wp2_with fail
        refine (unhide HT).mono ?_
        rintro e w2 ⟨rfl, hk2⟩
        have c0' := (hk2.cell hbl id).trans c0
        go_wp2_with fail
        go_ret
        refine ⟨ret_bool ?_, hk2⟩
        rw [unhide HE, Bool.eq_iff_iff]
        simp
        omega
  · have HE : Hid (R = decide (k + 1 = p)) := by show _ = _; rw [unhide HL, decide_eq_false hj, decide_eq_true (show kd ≠ 25 from fun q => hj (Or.inl q))]; simp
    have b1 : (kd == 25) = false := by simp; omega
    have b2 : (kd == 26) = false := by simp; omega
    have b3 : (kd != 25) = true := by simp; omega
    clear HL hj HTV
    go_enter Tryz.func40, Tryz.ntmps40
    go_wp2_with fail
    go_ret
    refine ⟨ret_bool ?_, Keeps.refl _ _⟩
    rw [unhide HE, Bool.eq_iff_iff]
    simp
    omega

end Go.Proofs.YtcicaifioghciaaGreatDoor
namespace Go.Proofs.YtcicaifioghciaaGreatDoor
open Go.RowKit Go.Maps
/-- A kind of a value. -/
def isK (k : Int) : Prop := k = 1 ∨ k = 2 ∨ k = 3
theorem letR_inj {a b : Int} (ha : isK a) (hb : isK b) (h : letR a = letR b) : a = b := by
  rcases ha with rfl | rfl | rfl <;> rcases hb with rfl | rfl | rfl <;> first | rfl | (exfalso; revert h; decide)
theorem map_letR_inj : ∀ {a b : List Int}, (∀ k ∈ a, isK k) → (∀ k ∈ b, isK k) → a.map letR = b.map letR → a = b
  | [], [], _, _, _ => rfl
  | [], _ :: _, _, _, h => by simp at h
  | _ :: _, [], _, _, h => by simp at h
  | x :: r, y :: s, ha, hb, h => by
    simp only [List.map_cons, List.cons.injEq] at h
    rw [letR_inj (ha x List.mem_cons_self) (hb y List.mem_cons_self) h.1, map_letR_inj (fun k hk => ha k (List.mem_cons_of_mem _ hk)) (fun k hk => hb k (List.mem_cons_of_mem _ hk)) h.2]
/-- The kinds that an operation is given, by the top of the stack. -/
def needK (S : List FieldA) (i : ValA) (st : List Int) : List Int :=
  if i.kind = 15 ∨ i.kind = 16 ∨ i.kind = 17 then
    (if (st.getLast?.getD 1) = 2 ∧ i.kind ≠ 17 then [1, 1] else [st.getLast?.getD 1, st.getLast?.getD 1])
  else List.replicate (opA i.kind).takes (ofF S i (opA i.kind).of)
theorem topR_map (i : ValA) (st : List Int) (hk : ∀ k ∈ st, isK k) : topR i (st.map letR) = [letR (if (st.getLast?.getD 1) = 2 ∧ i.kind ≠ 17 then 1 else st.getLast?.getD 1)] := by
  unfold topR
  rcases List.eq_nil_or_concat st with rfl | ⟨r, c, rfl⟩
  · simp [letR]
  · rw [List.concat_eq_append] at *
    have hc : isK c := hk c (by simp)
    have hd : ((r ++ [c]).map letR).drop (((r ++ [c]).map letR).length - 1) = [letR c] := by simp
    have hn : ¬ (r ++ [c]).map letR = [] := by simp
    rw [if_neg hn, hd]
    have hl : (r ++ [c]).getLast?.getD 1 = c := by simp
    rw [hl]
    by_cases h2 : c = 2
    · subst h2
      by_cases h17 : i.kind = 17
      · rw [if_neg (fun q => q.2 h17), if_neg (fun q => q.2 h17)]
      · rw [if_pos ⟨by decide, h17⟩, if_pos ⟨rfl, h17⟩]
        rfl
    · have hne : ¬ [letR c] = [98] := by
        intro q
        apply h2
        exact letR_inj hc (Or.inr (Or.inl rfl)) (by have e : letR c = 98 := by simpa using q
                                                    rw [e]; rfl)
      rw [if_neg (fun q => hne q.1), if_neg (fun q => h2 q.1)]
theorem takesR_map (S : List FieldA) (i : ValA) (st : List Int) (hk : ∀ k ∈ st, isK k) : takesR S i (topR i (st.map letR)) = ((needK S i st).map letR, if (opA i.kind).gives = 0 then [] else [letR (ofF S i (opA i.kind).gives)]) := by
  unfold takesR needK
  rw [topR_map i st hk]
  split
  · split <;> rfl
  · simp

theorem op_facts : ∀ o ∈ ([1, 2, 3, 4, 5, 6, 7, 8, 9, 10, 11, 12, 13, 14, 15, 16, 17, 18, 19, 20, 21, 22, 23, 24, 25, 26] : List Int), ((o = 15 ∨ o = 16) → (opA o).takes = 2 ∧ (opA o).of = 5) ∧ (o = 17 → (opA o).takes = 2 ∧ (opA o).of = 6) ∧ (¬ (o = 15 ∨ o = 16 ∨ o = 17) → (opA o).takes = 0 ∨ (opA o).of = 1 ∨ (opA o).of = 2 ∨ (opA o).of = 3 ∨ (opA o).of = 4) ∧ ((opA o).gives = 0 ∨ (opA o).gives = 1 ∨ (opA o).gives = 2 ∨ (opA o).gives = 3 ∨ (opA o).gives = 4) := by decide
theorem needK_length (S : List FieldA) (i : ValA) (st : List Int) (hf : formB i = 0) : (needK S i st).length = (opA i.kind).takes := by
  obtain ⟨h1, h2, _, _⟩ := op_facts _ (op_cases (formB_zero hf).1)
  unfold needK
  by_cases h : i.kind = 15 ∨ i.kind = 16 ∨ i.kind = 17
  · rw [if_pos h]
    have : (opA i.kind).takes = 2 := by
      rcases h with h | h | h
      · exact (h1 (Or.inl h)).1
      · exact (h1 (Or.inr h)).1
      · exact (h2 h).1
    rw [this]
    split <;> rfl
  · rw [if_neg h, List.length_replicate]
theorem takes_need (S : List FieldA) (i : ValA) (st : List Int) (hf : formB i = 0) (hk : ∀ k ∈ st, isK k) (hF : (opA i.kind).of = 4 → isK (fldT S i)) (hle : (opA i.kind).takes ≤ st.length) : takesB S i (st.drop (st.length - (opA i.kind).takes)) = decide (st.drop (st.length - (opA i.kind).takes) = needK S i st) := by
  obtain ⟨h1, h2, h3, _⟩ := op_facts _ (op_cases (formB_zero hf).1)
  by_cases h : i.kind = 15 ∨ i.kind = 16 ∨ i.kind = 17
  · have ht : (opA i.kind).takes = 2 := by
      rcases h with h | h | h
      · exact (h1 (Or.inl h)).1
      · exact (h1 (Or.inr h)).1
      · exact (h2 h).1
    rw [ht] at hle ⊢
    obtain ⟨a, b, r, rfl⟩ : ∃ a b r, st = r ++ [a, b] := by
      refine ⟨(st.drop (st.length - 2))[0]'(by rw [List.length_drop]; omega), (st.drop (st.length - 2))[1]'(by rw [List.length_drop]; omega), st.take (st.length - 2), ?_⟩
      conv => lhs; rw [← List.take_append_drop (st.length - 2) st]
      congr 1
      apply List.ext_getElem
      · show (st.drop (st.length - 2)).length = 2
        have e : (st.drop (st.length - 2)).length = st.length - (st.length - 2) := List.length_drop
        omega
      · intro j hj hj2
        have : j = 0 ∨ j = 1 := by simp at hj2; omega
        rcases this with rfl | rfl <;> rfl
    have hd : (r ++ [a, b]).drop ((r ++ [a, b]).length - 2) = [a, b] := by simp
    have hl : (r ++ [a, b]).getLast?.getD 1 = b := by simp
    have ka : isK a := hk a (by simp)
    have kb : isK b := hk b (by simp)
    rw [hd]
    unfold takesB needK ofF
    rw [if_pos h, hl]
    by_cases h17 : i.kind = 17
    · rw [(h2 h17).2]
      rcases ka with rfl | rfl | rfl <;> rcases kb with rfl | rfl | rfl <;> simp [allowsB, h17]
    · have h5 : i.kind = 15 ∨ i.kind = 16 := by omega
      rw [(h1 h5).2]
      rcases ka with rfl | rfl | rfl <;> rcases kb with rfl | rfl | rfl <;> simp [allowsB, h17]
  · have hlen : (st.drop (st.length - (opA i.kind).takes)).length = (opA i.kind).takes := by rw [List.length_drop]; omega
    have hv : ∀ k ∈ st.drop (st.length - (opA i.kind).takes), isK k := fun k hk' => hk k (List.mem_of_mem_drop hk')
    have hK : (opA i.kind).takes = 0 ∨ isK (ofF S i (opA i.kind).of) := by
      rcases h3 h with e | e | e | e | e
      · exact Or.inl e
      · right; unfold ofF; rw [e]; exact Or.inl rfl
      · right; unfold ofF; rw [e]; exact Or.inr (Or.inl rfl)
      · right; unfold ofF; rw [e]; exact Or.inr (Or.inr rfl)
      · right; unfold ofF; rw [if_pos e]; exact hF e
    unfold takesB needK
    rw [if_neg h]
    generalize st.drop (st.length - (opA i.kind).takes) = vs at *
    generalize ofF S i (opA i.kind).of = K at *
    generalize (opA i.kind).takes = T at *
    rcases hK with rfl | hK
    · have : vs = [] := List.eq_nil_of_length_eq_zero hlen
      subst this
      rfl
    · have hal : ∀ k, allowsB K k = decide (K = k) := by
        intro k
        unfold allowsB
        rcases hK with rfl | rfl | rfl <;> simp
      rw [Bool.eq_iff_iff, decide_eq_true_iff, List.all_eq_true]
      constructor
      · intro hall
        rw [List.eq_replicate_iff]
        refine ⟨hlen, fun k hk' => ?_⟩
        have := hall k hk'
        rw [hal, Bool.and_eq_true, decide_eq_true_iff, decide_eq_true_iff] at this
        exact this.2.symm
      · intro e k hk'
        rw [e] at hk'
        have hkK := (List.mem_replicate.1 hk').2
        rw [hal, Bool.and_eq_true, decide_eq_true_iff, decide_eq_true_iff, hkK]
        refine ⟨?_, rfl⟩
        rw [e]
        cases T with
        | zero => simp at hk'
        | succ T => rfl

end Go.Proofs.YtcicaifioghciaaGreatDoor
namespace Go.Proofs.YtcicaifioghciaaGreatDoor
open Go.RowKit Go.Maps
theorem needK_isK (S : List FieldA) (i : ValA) (st : List Int) (hf : formB i = 0) (hk : ∀ k ∈ st, isK k) (hF : (opA i.kind).of = 4 → isK (fldT S i)) : ∀ k ∈ needK S i st, isK k := by
  obtain ⟨_, _, h3, _⟩ := op_facts _ (op_cases (formB_zero hf).1)
  have hlast : isK (st.getLast?.getD 1) := by
    cases hl : st.getLast? with
    | none => exact Or.inl rfl
    | some c => exact hk c (List.mem_of_getLast? hl)
  intro k hk'
  unfold needK at hk'
  by_cases h : i.kind = 15 ∨ i.kind = 16 ∨ i.kind = 17
  · rw [if_pos h] at hk'
    split at hk'
    · simp at hk'; subst hk'; exact Or.inl rfl
    · simp at hk'; rw [hk']; exact hlast
  · rw [if_neg h] at hk'
    obtain ⟨h0, rfl⟩ := List.mem_replicate.1 hk'
    rcases h3 h with e | e | e | e | e
    · exact absurd e h0
    · unfold ofF; rw [e]; exact Or.inl rfl
    · unfold ofF; rw [e]; exact Or.inr (Or.inl rfl)
    · unfold ofF; rw [e]; exact Or.inr (Or.inr rfl)
    · unfold ofF; rw [if_pos e]; exact hF e
/-- The stack behind an instruction, in letters and in kinds. -/
theorem behR_behB (S : List FieldA) (i : ValA) (st : List Int) (hf : formB i = 0) (hk : ∀ k ∈ st, isK k) (hF : (opA i.kind).of = 4 → isK (fldT S i)) :
    (behR S i (st.map letR)).2 = (behB S i st).isSome ∧ ∀ st', behB S i st = some st' → (behR S i (st.map letR)).1 = st'.map letR := by
  have hn := needK_length S i st hf
  have hni := needK_isK S i st hf hk hF
  unfold behR behB
  rw [takesR_map S i st hk]
  have hq : (st.map letR).length = st.length := List.length_map ..
  have hnm : ((needK S i st).map letR).length = (opA i.kind).takes := by rw [List.length_map]; exact hn
  by_cases hle : st.length < (opA i.kind).takes
  · have he : endsB (st.map letR) ((needK S i st).map letR) = false := by
      unfold endsB
      rw [hnm, hq, decide_eq_false (by omega)]
      rfl
    simp only [he, if_true, if_pos hle, Option.isSome_none]
    exact ⟨trivial, fun _ h => by cases h⟩
  · have hle' : (opA i.kind).takes ≤ st.length := by omega
    have he : endsB (st.map letR) ((needK S i st).map letR) = takesB S i (st.drop (st.length - (opA i.kind).takes)) := by
      rw [takes_need S i st hf hk hF hle']
      unfold endsB
      rw [hnm, hq, decide_eq_true hle', Bool.true_and, ← List.map_drop, Bool.eq_iff_iff, decide_eq_true_iff, decide_eq_true_iff]
      constructor
      · intro e
        exact map_letR_inj (fun k h => hk k (List.mem_of_mem_drop h)) hni e
      · intro e
        rw [e]
    have ha : (st.map letR).take ((st.map letR).length - ((needK S i st).map letR).length) ++ (if (opA i.kind).gives = 0 then [] else [letR (ofF S i (opA i.kind).gives)]) = (afterB S i st).map letR := by
      unfold afterB
      rw [hnm, hq, List.map_append, List.map_take]
      congr 1
      by_cases hg : (opA i.kind).gives = 0
      · rw [if_pos hg, if_neg (fun q => q hg)]; rfl
      · rw [if_neg hg, if_pos hg]; rfl
    rw [if_neg hle]
    simp only [he]
    cases ht : takesB S i (st.drop (st.length - (opA i.kind).takes)) with
    | false =>
      simp only [if_true, Option.isSome_none]
      exact ⟨trivial, fun _ h => by cases h⟩
    | true =>
      simp only [Bool.true_eq_false, if_false]
      rw [ha, List.length_map]
      by_cases h16 : (afterB S i st).length ≤ 16
      · rw [if_pos h16, decide_eq_true h16]
        exact ⟨rfl, fun st' h => by cases h; rfl⟩
      · rw [if_neg h16, decide_eq_false h16]
        exact ⟨rfl, fun _ h => by cases h⟩

end Go.Proofs.YtcicaifioghciaaGreatDoor
namespace Go.Proofs.YtcicaifioghciaaGreatDoor
open Go.RowKit Go.Maps
theorem bringA_twice (p : PlA) (st : List Int) : bringA (bringA p st) st = bringA p st := by simp [bringA]
/-- What the instruction at i brings to the place t, hv being the places ahead. -/
def bringsB (S : List FieldA) (l : List ValA) (hv : List (Bool × List Int)) (i t : Nat) : Option (List Int) :=
  match hv[i]?, l[i]? with
  | some (true, st), some x => if leadsB i x t then behB S x st else none
  | _, _ => none
/-- The place t when k instructions have had their turn: pushed. -/
def pushB (S : List FieldA) (l : List ValA) (hv : List (Bool × List Int)) (t : Nat) : Nat → PlA
  | 0 => if t = 0 then bringA plZ [] else plZ
  | k + 1 => match bringsB S l hv k t with
    | some st => bringA (pushB S l hv t k) st
    | none => pushB S l hv t k
/-- The same, pulled; none: two unlike stacks. -/
def pullB (S : List FieldA) (l : List ValA) (hv : List (Bool × List Int)) (t : Nat) : Nat → Option (Bool × List Int)
  | 0 => some (decide (t = 0), [])
  | k + 1 => match pullB S l hv t k with
    | none => none
    | some (r, h) => match bringsB S l hv k t with
      | some st => if r = true ∧ h ≠ st then none else some (true, st)
      | none => some (r, h)
theorem pull_push (S : List FieldA) (l : List ValA) (hv : List (Bool × List Int)) (t : Nat) : ∀ k, pullB S l hv t k = if (pushB S l hv t k).u = true then none else some ((pushB S l hv t k).r, (pushB S l hv t k).st)
  | 0 => by
    unfold pullB pushB
    by_cases h : t = 0
    · simp [h, bringA, plZ]
    · simp [h, plZ]
  | k + 1 => by
    rw [pullB, pull_push S l hv t k, pushB]
    cases bringsB S l hv k t with
    | none =>
      by_cases hu : (pushB S l hv t k).u = true
      · simp [hu]
      · simp [hu]
    | some st =>
      generalize pushB S l hv t k = P
      obtain ⟨r, s0, u⟩ := P
      cases u
      · cases r
        · simp [bringA]
        · by_cases he : s0 = st
          · simp [bringA, he]
          · simp [bringA, he]
      · simp [bringA]
theorem push_zero (S : List FieldA) (l : List ValA) (hv : List (Bool × List Int)) (t : Nat) : ∀ k, (pushB S l hv t k).r = false → pushB S l hv t k = plZ
  | 0 => by
    unfold pushB
    by_cases h : t = 0
    · simp [h, bringA]
    · simp [h]
  | k + 1 => by
    rw [pushB]
    cases bringsB S l hv k t with
    | none => exact push_zero S l hv t k
    | some st => simp [bringA]
/-- Nothing is brought backward. -/
theorem bringsB_ahead {S : List FieldA} {l : List ValA} {hv : List (Bool × List Int)} {i t : Nat} (h : t ≤ i) : bringsB S l hv i t = none := by
  unfold bringsB
  split
  · rename_i x _ _
    have : leadsB i x t = false := by
      unfold leadsB
      rw [decide_eq_false (show ¬ i + 1 + x.n.toNat = t by omega), decide_eq_false (show ¬ i + 1 = t by omega)]
      simp
    rw [this]
    rfl
  · rfl
theorem push_stays (S : List FieldA) (l : List ValA) (hv : List (Bool × List Int)) (t : Nat) : ∀ k, pushB S l hv t (t + k) = pushB S l hv t t
  | 0 => rfl
  | k + 1 => by
    rw [show t + (k + 1) = (t + k) + 1 by omega, pushB, bringsB_ahead (by omega)]
    exact push_stays S l hv t k
theorem push_more (S : List FieldA) (l : List ValA) (hv : List (Bool × List Int)) (z : Bool × List Int) (t : Nat) : ∀ k, k ≤ hv.length → pushB S l (hv ++ [z]) t k = pushB S l hv t k
  | 0, _ => rfl
  | k + 1, h => by
    have hb : bringsB S l (hv ++ [z]) k t = bringsB S l hv k t := by
      unfold bringsB
      rw [List.getElem?_append_left (by omega)]
    rw [pushB, pushB, hb, push_more S l hv z t k (by omega)]

end Go.Proofs.YtcicaifioghciaaGreatDoor
