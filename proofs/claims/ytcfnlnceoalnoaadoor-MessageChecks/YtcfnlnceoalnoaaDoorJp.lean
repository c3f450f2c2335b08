import Derived.Test.YtcfnlnceoalnoaaDoorJo
namespace Go.Proofs.YtcfnlnceoalnoaaDoor
open Go.RowKit Go.Maps
/-- What the reference takes and gives, in letters. -/
def takesR (S : List FieldA) (i : ValA) (t : Txt) : Txt × Txt :=
  (if i.kind = 15 ∨ i.kind = 16 ∨ i.kind = 17 then t ++ t else List.replicate (opA i.kind).takes (letR (ofF S i (opA i.kind).of)),
   if (opA i.kind).gives = 0 then [] else [letR (ofF S i (opA i.kind).gives)])
set_option maxRecDepth 100000 in
set_option maxHeartbeats 4000000 in
theorem takesR_v (S : List FieldA) (so : Option Addr) (sc : Nat) (i : ValA) (t : Txt) (w : World) (hS : FldsAt w (.slice so S.length sc) S) (hf : formB i = 0) (hr : rightF S i = true) (ht : t.length ≤ 16) :
    Calls Tryd.prog 82 #[.agg #[.slice so S.length sc], i.v, str t] w fun e w' => e = .returned (.tuple #[str (takesR S i t).1, str (takesR S i t).2]) ∧ Keeps (fun _ => False) w w' := by
  have hop := op_cases (formB_zero hf).1
  have hn1 := fun q : (opA i.kind).of = 4 ∨ (opA i.kind).gives = 4 => names_ok hf hr q
  have HT : Hid (takesR S i t = takesR S i t) := rfl
  have HFT : Hid (fldT S i = ((S[i.n.toNat]?).map FieldA.type).getD 0) := rfl
  obtain ⟨kd, n, s⟩ := i
  unfold ValA.v
  simp only at *
  obtain ⟨HX, hxb, hxc⟩ := boxed w #[.slice so S.length sc] 24
  obtain ⟨HY, hyb, hyc⟩ := boxed (w.alloc (.cells #[.slice so S.length sc] 24)) #[.int .i64 kd, .int .i64 n, str s] 70
  have x0 := ((unhide HY).cell hxb id).trans (hxc 0 (.slice so S.length sc) rfl)
  have y0 := hyc 0 (.int .i64 kd) rfl
  have y1 := hyc 1 (.int .i64 n) rfl
  rw [World.size_alloc] at y0 y1
  have HK := hide ((unhide HX).trans (unhide HY))
  have HS := hide (hS.keepF (unhide HK))
  generalize hW : ((w.alloc (.cells #[.slice so S.length sc] 24)).alloc (.cells #[.int .i64 kd, .int .i64 n, str s] 70)) = W at *
  clear hxc hyc HX HY hxb hyb hS hf hr
  simp only [List.mem_cons, List.not_mem_nil, or_false] at hop
  by_cases h5 : kd = 5 ∨ kd = 20
  · have hnn : 0 ≤ n ∧ n < S.length := hn1 (by rcases h5 with rfl | rfl; exact Or.inr rfl; exact Or.inl rfl)
    obtain ⟨n0, n1⟩ := hnn
    obtain ⟨p, rfl⟩ := Int.eq_ofNat_of_zero_le n0
    obtain ⟨f, hf⟩ : ∃ f, S[p]? = some f := ⟨_, List.getElem?_eq_getElem (by omega)⟩
    obtain ⟨fb, foff, fc, fe, hfb, hfc⟩ := (unhide HS).cells (by omega)
    simp only [Value.slice.injEq] at fe
    obtain ⟨rfl, _, rfl⟩ := fe
    have c1 := (hfc p f hf).2.1
    have HFE : Hid (fldT S ⟨kd, p, s⟩ = f.type) := by show _ = _; rw [unhide HFT]; simp [hf]
    have HKV := hide (fun w' => kind_v f.type w')
    clear hfc hf HFT hn1 HS
    rcases h5 with rfl | rfl
    · have HTT : Hid (takesR S ⟨5, p, s⟩ t = ([], [letR f.type])) := by
        show _ = _
        rw [← unhide HFE]
        rfl
      clear HFE HT
      go_enter Tryd.func82, Tryd.ntmps82
      go_wp2_with fail
      refine ((unhide HKV) _).mono ?_
      rintro e w2 ⟨rfl, rfl⟩
      go_wp2_with fail
      go_ret2
      rw [unhide HTT]
      exact ⟨rfl, unhide HK⟩
    · have HTT : Hid (takesR S ⟨20, p, s⟩ t = ([letR f.type], [])) := by
        show _ = _
        rw [← unhide HFE]
        rfl
      clear HFE HT
      go_enter Tryd.func82, Tryd.ntmps82
      go_wp2_with fail
      refine ((unhide HKV) _).mono ?_
      rintro e w2 ⟨rfl, rfl⟩
      go_wp2_with fail
      go_ret2
      rw [unhide HTT]
      exact ⟨rfl, unhide HK⟩
  · by_cases h15 : kd = 15 ∨ kd = 16 ∨ kd = 17
    · have hadd : ∀ w' : World, (Op.stringOp .add (ByteArray.mk t.toArray) (ByteArray.mk t.toArray)).run Tryd.prog w' = .ok (str (t ++ t)) w' := fun w' => add_str w' t t (by omega)
      clear hn1 HS HFT x0 y1
      rcases h15 with rfl | rfl | rfl
      all_goals
        go_enter Tryd.func82, Tryd.ntmps82
        go_wp2_with fail
        go_ret2
        exact ⟨rfl, unhide HK⟩
    · clear hn1 HS HFT x0 y1
      rcases hop with rfl | rfl | rfl | rfl | rfl | rfl | rfl | rfl | rfl | rfl | rfl | rfl | rfl | rfl | rfl | rfl | rfl | rfl | rfl | rfl | rfl | rfl | rfl | rfl | rfl | rfl
      all_goals first
        | (exfalso; omega)
        | (go_enter Tryd.func82, Tryd.ntmps82
           go_wp2_with fail
           go_ret2
           exact ⟨rfl, unhide HK⟩)

end Go.Proofs.YtcfnlnceoalnoaaDoor
namespace Go.Proofs.YtcfnlnceoalnoaaDoor
open Go.RowKit Go.Maps
theorem ext_drop (q : Txt) (U : Nat) : ((ByteArray.mk q.toArray).extract U q.length).toList = q.drop U := by
  rw [ext_str, List.take_of_length_le (by rw [List.length_drop]; omega)]
  simp
def endsB (q r : Txt) : Bool := decide (r.length ≤ q.length) && decide (q.drop (q.length - r.length) = r)
set_option maxRecDepth 100000 in
set_option maxHeartbeats 1000000 in
theorem ends_v (q r : Txt) (w : World) (hq : q.length ≤ 4096) (hr : r.length ≤ 4096) : Calls Tryd.prog 83 #[str q, str r] w fun e w' => e = .returned (.bool (endsB q r)) ∧ Keeps (fun _ => False) w w' := by
  by_cases h : r.length ≤ q.length
  · have j1 : (r.length : Int) ≤ (q.length : Int) := by omega
    have j2 : (0 : Int) ≤ (q.length : Int) - (r.length : Int) := by omega
    have j3 : (q.length : Int) - (r.length : Int) ≤ (q.length : Int) := by omega
    obtain ⟨U, hU⟩ : ∃ U, U + r.length = q.length := ⟨q.length - r.length, by omega⟩
    have hUT : (q.length : Int) - (r.length : Int) = (U : Int) := by omega
    have HE : Hid (endsB q r = decide (q.drop U = r)) := by
      show _ = _
      unfold endsB
      rw [decide_eq_true h, show q.length - r.length = U by omega]
      rfl
    go_enter Tryd.func83, Tryd.ntmps83
    go_wp2
    go_ret
    refine ⟨ret_bool ?_, Keeps.refl _ _⟩
    rw [unhide HE, ext_drop, Bool.eq_iff_iff, beq_iff_eq, decide_eq_true_iff]
  · have j1 : ¬ (r.length : Int) ≤ (q.length : Int) := by omega
    have HE : Hid (endsB q r = false) := by show _ = _; unfold endsB; rw [decide_eq_false h]; rfl
    go_enter Tryd.func83, Tryd.ntmps83
    go_wp2
    go_ret
    exact ⟨ret_bool (unhide HE).symm, Keeps.refl _ _⟩

end Go.Proofs.YtcfnlnceoalnoaaDoor
namespace Go.Proofs.YtcfnlnceoalnoaaDoor
open Go.RowKit Go.Maps
/-- The letter that a comparison goes by. -/
def topR (i : ValA) (q : Txt) : Txt := if (if q = [] then [105] else q.drop (q.length - 1)) = [98] ∧ i.kind ≠ 17 then [105] else if q = [] then [105] else q.drop (q.length - 1)
def behR (S : List FieldA) (i : ValA) (q : Txt) : Txt × Bool :=
  if endsB q (takesR S i (topR i q)).1 = false then ([], false)
  else (q.take (q.length - (takesR S i (topR i q)).1.length) ++ (takesR S i (topR i q)).2, decide ((q.take (q.length - (takesR S i (topR i q)).1.length) ++ (takesR S i (topR i q)).2).length ≤ 16))
theorem str_from (q : Txt) (U : Nat) (h : U ≤ q.length) (W : World) : (Instr.sliceAt 9 (str q) (some (.int .i64 (U : Int))) none none).run Tryd.prog W = .ok (str (q.drop U)) W := by
  have j0 : (0 : Int) ≤ (U : Int) := by omega
  have j1 : (U : Int) ≤ (q.length : Int) := by omega
  have e : (ByteArray.mk q.toArray).extract U q.length = ⟨(q.drop U).toArray⟩ := by rw [ext_str, List.take_of_length_le (by rw [List.length_drop]; omega)]
  simp [go_sem, j0, j1, e, str]
theorem str_to (q : Txt) (U : Nat) (h : U ≤ q.length) (W : World) : (Instr.sliceAt 9 (str q) none (some (.int .i64 (U : Int))) none).run Tryd.prog W = .ok (str (q.take U)) W := by
  have j0 : (0 : Int) ≤ (U : Int) := by omega
  have j1 : (U : Int) ≤ (q.length : Int) := by omega
  have e : (ByteArray.mk q.toArray).extract 0 U = ⟨(q.take U).toArray⟩ := by rw [ext_str]; simp
  simp [go_sem, j0, j1, e, str]
set_option maxRecDepth 100000 in
set_option maxHeartbeats 4000000 in
theorem behindR_v (S : List FieldA) (so : Option Addr) (sc : Nat) (i : ValA) (q : Txt) (w : World) (hS : FldsAt w (.slice so S.length sc) S) (hf : formB i = 0) (hr : rightF S i = true) (hq : q.length ≤ 4096) :
    Calls Tryd.prog 68 #[.agg #[.slice so S.length sc], i.v, str q] w fun e w' => e = .returned (.tuple #[str (behR S i q).1, .bool (behR S i q).2]) ∧ Keeps (fun _ => False) w w' := by
  have HQ := hide (fun (t : Txt) (w' : World) (b : FldsAt w' (.slice so S.length sc) S) (c : t.length ≤ 16) => takesR_v S so sc i t w' b hf hr c)
  have htk := op_small _ (op_cases (formB_zero hf).1)
  have HTL : Hid (∀ t : Txt, t.length ≤ 1 → (takesR S i t).1.length ≤ 4096 ∧ (takesR S i t).2.length ≤ 4096) := fun t ht => by
    unfold takesR
    constructor
    · show List.length (if _ then _ else _) ≤ 4096
      split
      · simp; omega
      · simp; omega
    · show List.length (if _ then _ else _) ≤ 4096
      split <;> simp
  have HBR : Hid (behR S i q = if endsB q (takesR S i (topR i q)).1 = false then ([], false) else (q.take (q.length - (takesR S i (topR i q)).1.length) ++ (takesR S i (topR i q)).2, decide ((q.take (q.length - (takesR S i (topR i q)).1.length) ++ (takesR S i (topR i q)).2).length ≤ 16))) := rfl
  have HTQ : Hid (topR i q = if (if q = [] then [105] else q.drop (q.length - 1)) = [98] ∧ i.kind ≠ 17 then [105] else if q = [] then [105] else q.drop (q.length - 1)) := rfl
  obtain ⟨kd, n, s⟩ := i
  unfold ValA.v at *
  simp only at *
  generalize topR ⟨kd, n, s⟩ q = TP at *
  generalize behR S ⟨kd, n, s⟩ q = R at *
  obtain ⟨HX, hxb, hxc⟩ := boxed w #[.slice so S.length sc] 24
  obtain ⟨HY, hyb, hyc⟩ := boxed (w.alloc (.cells #[.slice so S.length sc] 24)) #[.int .i64 kd, .int .i64 n, str s] 70
  have x0 := ((unhide HY).cell hxb id).trans (hxc 0 (.slice so S.length sc) rfl)
  have y0 := hyc 0 (.int .i64 kd) rfl
  have y1 := hyc 1 (.int .i64 n) rfl
  have y2 := hyc 2 (str s) rfl
  rw [World.size_alloc] at y0 y1 y2
  have HK := hide ((unhide HX).trans (unhide HY))
  have HS := hide (hS.keepF (unhide HK))
  generalize hW : ((w.alloc (.cells #[.slice so S.length sc] 24)).alloc (.cells #[.int .i64 kd, .int .i64 n, str s] 70)) = W at *
  clear hxc hyc HX HY hxb hyb hS hf hr htk
  by_cases h0 : q = []
  · have HTP : Hid (TP = [105]) := by show _ = _; rw [unhide HTQ, if_neg (by rw [if_pos h0]; intro h; cases h.1), if_pos h0]
    have j0 : ¬ (0 : Int) < (q.length : Int) := by rw [h0]; simp
    clear HTQ h0
    go_enter Tryd.func68, Tryd.ntmps68
    have HT0 := hide ((unhide HQ) [105] W (unhide HS) (by simp))
    go_wp2_with fail
    refine (unhide HT0).mono ?_
    rintro e w2 ⟨rfl, hk2⟩
    have HK2 := hide ((unhide HK).trans hk2)
    have HEN := hide (ends_v q (takesR S ⟨kd, n, s⟩ [105]).1 w2 hq ((unhide HTL) [105] (by simp)).1)
    have htl := (unhide HTL) [105] (by simp)
    have HB2 : Hid (R = if endsB q (takesR S ⟨kd, n, s⟩ [105]).1 = false then ([], false) else (q.take (q.length - (takesR S ⟨kd, n, s⟩ [105]).1.length) ++ (takesR S ⟨kd, n, s⟩ [105]).2, decide ((q.take (q.length - (takesR S ⟨kd, n, s⟩ [105]).1.length) ++ (takesR S ⟨kd, n, s⟩ [105]).2).length ≤ 16))) := by
      show _ = _
      rw [unhide HBR, unhide HTP]
    have hle : endsB q (takesR S ⟨kd, n, s⟩ [105]).1 = true → (takesR S ⟨kd, n, s⟩ [105]).1.length ≤ q.length := fun h => by
      unfold endsB at h
      simp at h
      exact h.1
    generalize endsB q (takesR S ⟨kd, n, s⟩ [105]).1 = EB at *
    generalize takesR S ⟨kd, n, s⟩ [105] = TK at *
    obtain ⟨ti, to⟩ := TK
    simp only at *
    clear hk2 HT0 HBR HTP HQ HTL
    go_wp2_with fail
    refine (unhide HEN).mono ?_
    rintro e w3 ⟨rfl, hk3⟩
    have HK3 := hide ((unhide HK2).trans hk3)
    clear hk3 HEN HK2
    cases EB with
    | false =>
      have HE : Hid (R = ([], false)) := unhide HB2
      clear HB2
      go_wp2_with fail
      go_ret2
      rw [unhide HE]
      exact ⟨rfl, unhide HK3⟩
    | true =>
      have hlq := hle rfl
      have HE : Hid (R = (q.take (q.length - ti.length) ++ to, decide ((q.take (q.length - ti.length) ++ to).length ≤ 16))) := unhide HB2
      obtain ⟨V, hV⟩ : ∃ V, V + ti.length = q.length := ⟨q.length - ti.length, by omega⟩
      have hVT : (q.length : Int) - (ti.length : Int) = (V : Int) := by omega
      rw [show q.length - ti.length = V by omega] at HE
      have hsl := str_to q V (by omega)
      have hadd : ∀ w' : World, (Op.stringOp .add (ByteArray.mk (q.take V).toArray) (ByteArray.mk to.toArray)).run Tryd.prog w' = .ok (str (q.take V ++ to)) w' := fun w' => add_str w' _ _ (by rw [List.length_take]; omega)
      generalize q.take V ++ to = Q2 at *
      rw [show decide (Q2.length ≤ 16) = decide ((Q2.length : Int) ≤ 16) from decide_eq_decide.2 (by omega)] at HE
      clear HB2 hle
      go_wp2_with fail
      go_ret2
      rw [unhide HE]
      exact ⟨rfl, unhide HK3⟩
  · have hpos : 0 < q.length := by rcases Nat.eq_zero_or_pos q.length with h | h; exact absurd (List.eq_nil_of_length_eq_zero h) h0; exact h
    obtain ⟨U, hU⟩ : ∃ U, U + 1 = q.length := ⟨q.length - 1, by omega⟩
    have j0 : (0 : Int) < (q.length : Int) := by omega
    have hUT : (q.length : Int) - 1 = (U : Int) := by omega
    have hfr := str_from q U (by omega)
    obtain ⟨c, hc⟩ : ∃ c, q.drop U = [c] := by
      have h1 : (q.drop U).length = 1 := by rw [List.length_drop]; omega
      match hd : q.drop U, h1 with
      | [c], _ => exact ⟨c, rfl⟩
    rw [hc] at hfr
    have HTQ2 : Hid (TP = if [c] = [98] ∧ kd ≠ 17 then [105] else [c]) := by
      show _ = _
      rw [unhide HTQ, if_neg h0, show q.length - 1 = U by omega, hc]
    clear HTQ h0 hc
    by_cases hb : c = 98
    · subst hb
      by_cases hk : kd = 17
      · have HTP : Hid (TP = [98]) := by show _ = _; rw [unhide HTQ2, if_neg (fun h => h.2 hk)]
        have bk : (kd != 17) = false := by simpa using hk
        clear HTQ2 hk
        go_enter Tryd.func68, Tryd.ntmps68
        have HT0 := hide ((unhide HQ) [98] W (unhide HS) (by simp))
        go_wp2_with fail
        refine (unhide HT0).mono ?_
        rintro e w2 ⟨rfl, hk2⟩
        have HK2 := hide ((unhide HK).trans hk2)
        have HEN := hide (ends_v q (takesR S ⟨kd, n, s⟩ [98]).1 w2 hq ((unhide HTL) [98] (by simp)).1)
        have htl := (unhide HTL) [98] (by simp)
        have HB2 : Hid (R = if endsB q (takesR S ⟨kd, n, s⟩ [98]).1 = false then ([], false) else (q.take (q.length - (takesR S ⟨kd, n, s⟩ [98]).1.length) ++ (takesR S ⟨kd, n, s⟩ [98]).2, decide ((q.take (q.length - (takesR S ⟨kd, n, s⟩ [98]).1.length) ++ (takesR S ⟨kd, n, s⟩ [98]).2).length ≤ 16))) := by
          show _ = _
          rw [unhide HBR, unhide HTP]
        have hle : endsB q (takesR S ⟨kd, n, s⟩ [98]).1 = true → (takesR S ⟨kd, n, s⟩ [98]).1.length ≤ q.length := fun h => by
          unfold endsB at h
          simp at h
          exact h.1
        generalize endsB q (takesR S ⟨kd, n, s⟩ [98]).1 = EB at *
        generalize takesR S ⟨kd, n, s⟩ [98] = TK at *
        obtain ⟨ti, to⟩ := TK
        simp only at *
        clear hk2 HT0 HBR HTP HQ HTL
        go_wp2_with fail
        refine (unhide HEN).mono ?_
        rintro e w3 ⟨rfl, hk3⟩
        have HK3 := hide ((unhide HK2).trans hk3)
        clear hk3 HEN HK2
        cases EB with
        | false =>
          have HE : Hid (R = ([], false)) := unhide HB2
          clear HB2
          go_wp2_with fail
          go_ret2
          rw [unhide HE]
          exact ⟨rfl, unhide HK3⟩
        | true =>
          have hlq := hle rfl
          have HE : Hid (R = (q.take (q.length - ti.length) ++ to, decide ((q.take (q.length - ti.length) ++ to).length ≤ 16))) := unhide HB2
          obtain ⟨V, hV⟩ : ∃ V, V + ti.length = q.length := ⟨q.length - ti.length, by omega⟩
          have hVT : (q.length : Int) - (ti.length : Int) = (V : Int) := by omega
          rw [show q.length - ti.length = V by omega] at HE
          have hsl := str_to q V (by omega)
          have hadd : ∀ w' : World, (Op.stringOp .add (ByteArray.mk (q.take V).toArray) (ByteArray.mk to.toArray)).run Tryd.prog w' = .ok (str (q.take V ++ to)) w' := fun w' => add_str w' _ _ (by rw [List.length_take]; omega)
          generalize q.take V ++ to = Q2 at *
          rw [show decide (Q2.length ≤ 16) = decide ((Q2.length : Int) ≤ 16) from decide_eq_decide.2 (by omega)] at HE
          clear HB2 hle
          go_wp2_with fail
          go_ret2
          rw [unhide HE]
          exact ⟨rfl, unhide HK3⟩
      · have HTP : Hid (TP = [105]) := by show _ = _; rw [unhide HTQ2, if_pos ⟨rfl, hk⟩]
        have bk : (kd != 17) = true := by simpa using hk
        clear HTQ2 hk
        go_enter Tryd.func68, Tryd.ntmps68
        have HT0 := hide ((unhide HQ) [105] W (unhide HS) (by simp))
        go_wp2_with fail
        refine (unhide HT0).mono ?_
        rintro e w2 ⟨rfl, hk2⟩
        have HK2 := hide ((unhide HK).trans hk2)
        have HEN := hide (ends_v q (takesR S ⟨kd, n, s⟩ [105]).1 w2 hq ((unhide HTL) [105] (by simp)).1)
        have htl := (unhide HTL) [105] (by simp)
        have HB2 : Hid (R = if endsB q (takesR S ⟨kd, n, s⟩ [105]).1 = false then ([], false) else (q.take (q.length - (takesR S ⟨kd, n, s⟩ [105]).1.length) ++ (takesR S ⟨kd, n, s⟩ [105]).2, decide ((q.take (q.length - (takesR S ⟨kd, n, s⟩ [105]).1.length) ++ (takesR S ⟨kd, n, s⟩ [105]).2).length ≤ 16))) := by
          show _ = _
          rw [unhide HBR, unhide HTP]
        have hle : endsB q (takesR S ⟨kd, n, s⟩ [105]).1 = true → (takesR S ⟨kd, n, s⟩ [105]).1.length ≤ q.length := fun h => by
          unfold endsB at h
          simp at h
          exact h.1
        generalize endsB q (takesR S ⟨kd, n, s⟩ [105]).1 = EB at *
        generalize takesR S ⟨kd, n, s⟩ [105] = TK at *
        obtain ⟨ti, to⟩ := TK
        simp only at *
        clear hk2 HT0 HBR HTP HQ HTL
        go_wp2_with fail
        refine (unhide HEN).mono ?_
        rintro e w3 ⟨rfl, hk3⟩
        have HK3 := hide ((unhide HK2).trans hk3)
        clear hk3 HEN HK2
        cases EB with
        | false =>
          have HE : Hid (R = ([], false)) := unhide HB2
          clear HB2
          go_wp2_with fail
          go_ret2
          rw [unhide HE]
          exact ⟨rfl, unhide HK3⟩
        | true =>
          have hlq := hle rfl
          have HE : Hid (R = (q.take (q.length - ti.length) ++ to, decide ((q.take (q.length - ti.length) ++ to).length ≤ 16))) := unhide HB2
          obtain ⟨V, hV⟩ : ∃ V, V + ti.length = q.length := ⟨q.length - ti.length, by omega⟩
          have hVT : (q.length : Int) - (ti.length : Int) = (V : Int) := by omega
          rw [show q.length - ti.length = V by omega] at HE
          have hsl := str_to q V (by omega)
          have hadd : ∀ w' : World, (Op.stringOp .add (ByteArray.mk (q.take V).toArray) (ByteArray.mk to.toArray)).run Tryd.prog w' = .ok (str (q.take V ++ to)) w' := fun w' => add_str w' _ _ (by rw [List.length_take]; omega)
          generalize q.take V ++ to = Q2 at *
          rw [show decide (Q2.length ≤ 16) = decide ((Q2.length : Int) ≤ 16) from decide_eq_decide.2 (by omega)] at HE
          clear HB2 hle
          go_wp2_with fail
          go_ret2
          rw [unhide HE]
          exact ⟨rfl, unhide HK3⟩
    · have HTP : Hid (TP = [c]) := by show _ = _; rw [unhide HTQ2, if_neg (fun h => hb (by simpa using h.1))]
      have bc : (c == 98) = false := by simpa using hb
      clear HTQ2
      go_enter Tryd.func68, Tryd.ntmps68
      have HT0 := hide ((unhide HQ) [c] W (unhide HS) (by simp))
      go_wp2_with fail
      refine (unhide HT0).mono ?_
      rintro e w2 ⟨rfl, hk2⟩
      have HK2 := hide ((unhide HK).trans hk2)
      have HEN := hide (ends_v q (takesR S ⟨kd, n, s⟩ [c]).1 w2 hq ((unhide HTL) [c] (by simp)).1)
      have htl := (unhide HTL) [c] (by simp)
      have HB2 : Hid (R = if endsB q (takesR S ⟨kd, n, s⟩ [c]).1 = false then ([], false) else (q.take (q.length - (takesR S ⟨kd, n, s⟩ [c]).1.length) ++ (takesR S ⟨kd, n, s⟩ [c]).2, decide ((q.take (q.length - (takesR S ⟨kd, n, s⟩ [c]).1.length) ++ (takesR S ⟨kd, n, s⟩ [c]).2).length ≤ 16))) := by
        show _ = _
        rw [unhide HBR, unhide HTP]
      have hle : endsB q (takesR S ⟨kd, n, s⟩ [c]).1 = true → (takesR S ⟨kd, n, s⟩ [c]).1.length ≤ q.length := fun h => by
        unfold endsB at h
        simp at h
        exact h.1
      generalize endsB q (takesR S ⟨kd, n, s⟩ [c]).1 = EB at *
      generalize takesR S ⟨kd, n, s⟩ [c] = TK at *
      obtain ⟨ti, to⟩ := TK
      simp only at *
      clear hk2 HT0 HBR HTP HQ HTL
      go_wp2_with fail
      refine (unhide HEN).mono ?_
      rintro e w3 ⟨rfl, hk3⟩
      have HK3 := hide ((unhide HK2).trans hk3)
      clear hk3 HEN HK2
      cases EB with
      | false =>
        have HE : Hid (R = ([], false)) := unhide HB2
        clear HB2
        go_wp2_with fail
        go_ret2
        rw [unhide HE]
        exact ⟨rfl, unhide HK3⟩
      | true =>
        have hlq := hle rfl
        have HE : Hid (R = (q.take (q.length - ti.length) ++ to, decide ((q.take (q.length - ti.length) ++ to).length ≤ 16))) := unhide HB2
        obtain ⟨V, hV⟩ : ∃ V, V + ti.length = q.length := ⟨q.length - ti.length, by omega⟩
        have hVT : (q.length : Int) - (ti.length : Int) = (V : Int) := by omega
        rw [show q.length - ti.length = V by omega] at HE
        have hsl := str_to q V (by omega)
        have hadd : ∀ w' : World, (Op.stringOp .add (ByteArray.mk (q.take V).toArray) (ByteArray.mk to.toArray)).run Tryd.prog w' = .ok (str (q.take V ++ to)) w' := fun w' => add_str w' _ _ (by rw [List.length_take]; omega)
        generalize q.take V ++ to = Q2 at *
        rw [show decide (Q2.length ≤ 16) = decide ((Q2.length : Int) ≤ 16) from decide_eq_decide.2 (by omega)] at HE
        clear HB2 hle
        go_wp2_with fail
        go_ret2
        rw [unhide HE]
        exact ⟨rfl, unhide HK3⟩

end Go.Proofs.YtcfnlnceoalnoaaDoor
namespace Go.Proofs.YtcfnlnceoalnoaaDoor
open Go.RowKit Go.Maps
/-- Does the instruction x at k lead to a place? -/
def leadsB (k : Nat) (x : ValA) (p : Nat) : Bool := (decide (x.kind = 25 ∨ x.kind = 26) && decide (k + 1 + x.n.toNat = p)) || (decide (x.kind ≠ 25) && decide (k + 1 = p))
set_option maxRecDepth 100000 in
set_option maxHeartbeats 2000000 in
theorem leads_v (l : List ValA) (v : Value) (w : World) (h : ValsAt w v l) (k p : Nat) (x : ValA) (hx : l[k]? = some x) (hl : l.length ≤ 96) (hf : formB x = 0) (hp : p ≤ 4096) :
    Calls Tryd.prog 67 #[v, .int .i64 (k : Int), .int .i64 (p : Int)] w fun e w' => e = .returned (.bool (leadsB k x p)) ∧ Keeps (fun _ => False) w w' := by
  obtain ⟨ao, cap, rfl⟩ := RowAt.form h
  have hk := (List.getElem?_eq_some_iff.1 hx).1
  have HV := hide h
  obtain ⟨b, off, c, e, hbl, hc⟩ := h.cells (by omega)
  simp at e
  obtain ⟨rfl, rfl⟩ := e
  have c0 := (hc k x hx).1
  have i2 : (k : Int) < (l.length : Int) := by omega
  have i0' : (0 : Int) ≤ (k : Int) := by omega
  have h6 := (opd_kind _ (op_cases (formB_zero hf).1)).2.2.1
  have HTV : Hid (x.kind = 25 ∨ x.kind = 26 → Calls Tryd.prog 66 #[.slice (some ⟨b, off, none⟩) l.length cap, .int .i64 (k : Int)] w fun e w' => e = .returned (.int .i64 ((k + 1 + x.n.toNat : Nat) : Int)) ∧ Keeps (fun _ => False) w w') := fun q => refTarget_v l _ w h k x hx hl (form_jump hf (h6.2 q)).1 (form_jump hf (h6.2 q)).2
  have HL : Hid (leadsB k x p = ((decide (x.kind = 25 ∨ x.kind = 26) && decide (k + 1 + x.n.toNat = p)) || (decide (x.kind ≠ 25) && decide (k + 1 = p)))) := rfl
  generalize leadsB k x p = R at *
  generalize k + 1 + x.n.toNat = TG at *
  generalize x.kind = kd at *
  clear hc hx hf h6 h
  by_cases hj : kd = 25 ∨ kd = 26
  · have HT := hide ((unhide HTV) hj)
    clear HTV
    by_cases ht : TG = p
    · have HE : Hid (R = true) := by show _ = _; rw [unhide HL, decide_eq_true hj, decide_eq_true ht]; rfl
      subst ht
      clear HL
      rcases hj with rfl | rfl
      all_goals
        go_enter Tryd.func67, Tryd.ntmps67
        go_wp2_with fail
        refine (unhide HT).mono ?_
        rintro e w2 ⟨rfl, hk2⟩
        go_wp2_with fail
        go_ret
        exact ⟨ret_bool (unhide HE).symm, hk2⟩
    · have HN := hide ht
      have bt : ((TG : Int) == (p : Int)) = false := by simp; omega
      rcases hj with rfl | rfl
      · have HE : Hid (R = false) := by show _ = _; rw [unhide HL, decide_eq_false (unhide HN)]; rfl
        clear HL ht
        go_enter Tryd.func67, Tryd.ntmps67
        go_wp2_with fail
        refine (unhide HT).mono ?_
        rintro e w2 ⟨rfl, hk2⟩
        have c0' := (hk2.cell hbl id).trans c0
        go_wp2_with fail
        go_ret
        exact ⟨ret_bool (unhide HE).symm, hk2⟩
      · have HE : Hid (R = decide (k + 1 = p)) := by show _ = _; rw [unhide HL, decide_eq_false (unhide HN)]; rfl
        clear HL ht
        go_enter Tryd.func67, Tryd.ntmps67
        go_wp2_with fail
        refine (unhide HT).mono ?_
        rintro e w2 ⟨rfl, hk2⟩
        have c0' := (hk2.cell hbl id).trans c0
        go_wp2_with fail
        go_ret
        refine ⟨ret_bool ?_, hk2⟩
        rw [unhide HE, Bool.eq_iff_iff]
        simp
        omega
  · have HE : Hid (R = decide (k + 1 = p)) := by show _ = _; rw [unhide HL, decide_eq_false hj, decide_eq_true (show kd ≠ 25 from fun q => hj (Or.inl q))]; simp
    have b1 : (kd == 25) = false := by simp; omega
    have b2 : (kd == 26) = false := by simp; omega
    have b3 : (kd != 25) = true := by simp; omega
    clear HL hj HTV
    go_enter Tryd.func67, Tryd.ntmps67
    go_wp2_with fail
    go_ret
    refine ⟨ret_bool ?_, Keeps.refl _ _⟩
    rw [unhide HE, Bool.eq_iff_iff]
    simp
    omega

end Go.Proofs.YtcfnlnceoalnoaaDoor
