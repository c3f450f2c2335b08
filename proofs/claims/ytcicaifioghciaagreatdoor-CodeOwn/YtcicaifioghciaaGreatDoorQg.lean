import Derived.Test.YtcicaifioghciaaGreatDoorQf
import Derived.Test.YtcicaifioghciaaGreatDoorJzai
namespace Go.Proofs.YtcicaifioghciaaGreatDoor
open Go.RowKit Go.Maps
theorem ib_keepF {w w' : World} {B b : Nat} {xs : List Value} (h : Lib.IsBuilder 63 5 B b xs w) (hk : Keeps (fun _ => False) w w') : Lib.IsBuilder 63 5 B b xs w' := by
  have key : ∀ p, Lib.BuilderAt 63 5 B b p xs w → Lib.BuilderAt 63 5 B b p xs w' := by
    rintro p ⟨hB, v, hbk, hown, hne⟩
    exact ⟨hB, v, (hk.block b (lt_of_block hbk) id).trans hbk, ownsRow_kept hown hk (fun _ _ => id), hne⟩
  rcases h with h | h
  · exact Or.inl (key _ h)
  · exact Or.inr (key _ h)
theorem fresh_ib (w : World) : Lib.IsBuilder 63 5 w.heap.size w.heap.size (bs []) (w.alloc (.cells #[.pointer none, .slice none 0 0] 63)) :=
  Or.inl ⟨Nat.le_refl _, .slice none 0 0, heap_alloc_new w _, ⟨rfl, Or.inl ⟨rfl, rfl⟩⟩, by simp [Value.ownBlock]⟩
theorem keeps_kb {w1 wr w' : World} {b : Nat} (h : Keeps (fun _ => False) w1 wr) (hk : Keeps (KB wr b b) wr w') (hb : w1.heap.size ≤ b) : Keeps (fun _ => False) w1 w' :=
  h.then hk (fun i hi q => by rcases q with rfl | ⟨q, _⟩ <;> omega)
/-- A line of a code's text. -/
def lineT (k : Nat) (x : ValA) : Txt := decimal (k : Int) ++ [32] ++ (opA x.kind).word ++ opTxt k x ++ [10]
def linesA : Nat → List ValA → Txt
  | _, [] => []
  | k, x :: r => lineT k x ++ linesA (k + 1) r
theorem linesA_drop {l : List ValA} {k : Nat} {x : ValA} (h : l[k]? = some x) : linesA k (l.drop k) = lineT k x ++ linesA (k + 1) (l.drop (k + 1)) := by
  obtain ⟨hk, hx⟩ := List.getElem?_eq_some_iff.1 h
  rw [List.drop_eq_getElem_cons hk, hx, linesA]
theorem word_len : ∀ o ∈ ([1, 2, 3, 4, 5, 6, 7, 8, 9, 10, 11, 12, 13, 14, 15, 16, 17, 18, 19, 20, 21, 22, 23, 24, 25, 26] : List Int), (opA o).word.length ≤ 8 := by decide
theorem form_s {x : ValA} (h : formB x = 0) : x.s.length ≤ 20 := by
  obtain ⟨ho, hr⟩ := formB_zero h
  obtain ⟨r0, r1, r2, r3, r4⟩ := rightB_at hr
  rcases opdB_cases x.kind with e | e | e | e | e | e
  · exact absurd e ho
  · rw [(r0 e).2]; simp
  · rw [r1 e]; simp
  · exact (r2 e).2
  · rw [(r3 e).2]; simp
  · rw [(r4 e).2]; simp
theorem opTxt_len (k : Nat) (x : ValA) (hf : formB x = 0) (hk : k ≤ 4096) (h0 : -9223372036854775808 ≤ x.n) (h1 : x.n ≤ 9223372036854775807) : (opTxt k x).length ≤ 90 := by
  have hs := form_s hf
  have hq := quoteB_len x.s
  unfold opTxt
  split
  · simp
  · split
    · simp; omega
    · split
      · rename_i h6
        have := form_jump hf h6
        have := decimal_len ((k + 1 + x.n.toNat : Nat) : Int) (by omega) (by omega)
        simp only [List.length_cons]; omega
      · have := decimal_len x.n h0 h1
        simp only [List.length_cons]; omega
theorem encC_zero {l : List ValA} (h : (encC l).2 = 0) : l.length ≤ 96 ∧ ∀ i ∈ l, formB i = 0 := by
  unfold encC at h
  by_cases h1 : 96 < l.length
  · rw [if_pos h1] at h; cases h
  · rw [if_neg h1] at h
    by_cases h2 : firstE l = 0
    · exact ⟨by omega, firstE_zero h2⟩
    · rw [if_pos h2] at h; exact absurd h h2
/-- A code's text, or the error. -/
def listA (l : List ValA) : Txt × Int := if (encC l).2 = 0 then (linesA 0 l, 0) else ([], (encC l).2)
set_option maxRecDepth 100000 in
set_option maxHeartbeats 4000000 in
theorem list_v (l : List ValA) (v : Value) (w : World) (hO : Ops w) (hT : Types w) (hP : Pow w) (h : ValsAt w v l) (hI : InR l) :
    Calls Tryz.prog 9 #[v] w fun e w' => e = .returned (.tuple #[str (listA l).1, .int .i64 (listA l).2]) ∧ Keeps (fun _ => False) w w' := by
  obtain ⟨ao, cap, rfl⟩ := RowAt.form h
  have HQ := hide (encode_v l _ w hO hT h hI)
  have HO := hide hO
  have HV := hide h
  have HP := hide hP
  have HI := hide hI
  have HZ := hide (fun q => encC_zero (l := l) q)
  have HL : Hid (listA l = if (encC l).2 = 0 then (linesA 0 l, 0) else ([], (encC l).2)) := rfl
  generalize listA l = R at *
  generalize encC l = EC at *
  obtain ⟨eb, ee⟩ := EC
  simp only at *
  clear h hO hP hI hT
  go_enter Tryz.func9, Tryz.ntmps9
  go_wp2_with fail
  refine (unhide HQ).mono ?_
  rintro e w1 ⟨b1, rfl, ho1, hk1⟩
  have HK1 := hide hk1
  clear ho1 HQ
  by_cases hee : ee = 0
  · obtain ⟨hl96, hF⟩ := (unhide HZ) hee
    have HR : Hid (R = (linesA 0 l, 0)) := by show _ = _; rw [unhide HL, if_pos hee]
    have HF := hide hF
    subst hee
    have HO1 := hide ((unhide HO).keepF hk1)
    have HV1 := hide ((unhide HV).keepF hk1)
    have HP1 := hide ((unhide HP).keepF hk1)
    have HIB := hide (fresh_ib w1)
    have HKA := hide ((Keeps.refl (fun _ => False) w1).alloc (.cells #[.pointer none, .slice none 0 0] 63))
    clear HL HZ hF hk1 HO HV HP
    go_wp2_with fail
    generalize hb : w1.heap.size = b at *
    generalize w1.alloc (.cells #[.pointer none, .slice none 0 0] 63) = W1 at *
    go_loopw [19] (fun i wr => ∃ (k : Nat) (t : Txt), k ≤ l.length ∧ i = .int .i64 k ∧ Hid (t ++ linesA k (l.drop k) = linesA 0 l) ∧ t.length ≤ k * 200 ∧ Lib.IsBuilder 63 5 b b (bs t) wr ∧ Keeps (fun _ => False) w1 wr) (fun i _ => l.length - (intOf i).toNat)
    case atStart => exact ⟨0, [], Nat.zero_le _, rfl, by simp [Hid], by simp, unhide HIB, unhide HKA⟩
    case round =>
      obtain ⟨k, t, hk, rfl, HS, htl, hib, hkp⟩ := hrel
      by_cases hlt : k < l.length
      · obtain ⟨x, hx⟩ : ∃ x, l[k]? = some x := ⟨_, List.getElem?_eq_getElem hlt⟩
        have hf := (unhide HF) x (List.mem_of_getElem? hx)
        have hn := (unhide HI) x (List.mem_of_getElem? hx)
        have ho := (formB_zero hf).1
        obtain ⟨o1, o2⟩ := opdB_range ho
        have hwl := word_len _ (op_cases ho)
        have hol := opTxt_len k x hf (by omega) hn.1 hn.2
        have hdl := decimal_len (k : Int) (by omega) (by omega)
        have hs := form_s hf
        obtain ⟨vb, off, c, ee, hbl, hc⟩ := (unhide HV1).cells (by omega)
        simp at ee
        obtain ⟨rfl, rfl⟩ := ee
        have c0 := (hkp.cell hbl id).trans (hc k x hx).1
        have c1 := (hkp.cell hbl id).trans (hc k x hx).2.1
        have c2 := (hkp.cell hbl id).trans (hc k x hx).2.2
        have HD := hide (linesA_drop hx)
        have HLT : Hid (lineT k x = decimal (k : Int) ++ [32] ++ (opA x.kind).word ++ opTxt k x ++ [10]) := rfl
        obtain ⟨HX, hxb, hxc⟩ := boxed wr #[.int .i64 x.kind, .int .i64 x.n, str x.s] 51
        have f0 := hxc 0 (.int .i64 x.kind) rfl
        have f1 := hxc 1 (.int .i64 x.n) rfl
        have f2 := hxc 2 (str x.s) rfl
        have HKX := hide (hkp.trans (unhide HX))
        have HIX := hide (ib_keepF hib (unhide HX))
        have hblk := heap_alloc_new wr (.cells #[.int .i64 x.kind, .int .i64 x.n, str x.s] 51)
        generalize hWX : wr.alloc (.cells #[.int .i64 x.kind, .int .i64 x.n, str x.s] 51) = WX at *
        have hdx := (Keeps.refl (fun _ => False) WX).drew
        have HQ1 := hide (itoa_v (k : Int) (by omega) (by omega) WX.drew ((unhide HP1).keepF ((unhide HKX).trans hdx)))
        have HQ2 := hide (fun (W : World) (hW : Keeps (fun _ => False) w1 W) => operandText_v k x W ((unhide HO1).keepF hW) ((unhide HP1).keepF hW) hf (by omega) (by omega) hn.1 hn.2)
        have HWS := hide (fun (s : Txt) (W : World) (q : Lib.IsBuilder 63 5 b b (bs t) W) (q2 : t.length + s.length ≤ 70368744177664) (q3 : b ≤ W.heap.size) => writeString_v b b t s W q q2 q3)
        obtain ⟨m, hm⟩ := Int.eq_ofNat_of_zero_le (show 0 ≤ x.kind by omega)
        have g0 := (((unhide HO1).keepF (unhide HKX)).at (m := m) (by omega)).2.2.2.2
        have hzo := ((unhide HO1).keepF (unhide HKX)).lt
        have i2 : (k : Int) < (l.length : Int) := by omega
        have i0' : (0 : Int) ≤ (k : Int) := by omega
        have j0 : (0 : Int) ≤ (m : Int) := by omega
        have j1 : (m : Int) < 27 := by omega
        generalize lineT k x = LT at *
        generalize opTxt k x = OT at *
        obtain ⟨xk, xn, xs⟩ := x
        simp only at hm
        subst hm
        unfold ValA.v at HQ2
        simp only at *
        generalize (opA (m : Int)).word = WD at *
        generalize decimal (k : Int) = DK at *
        have hb2 : b ≤ WX.heap.size := by have := (unhide HKX).size; omega
        have n1 : ¬ 9223372036854775807 < DK.length + 1 := by omega
        have n2 : ¬ 9223372036854775807 < DK.length + 1 + WD.length := by omega
        have n3 : ¬ 9223372036854775807 < DK.length + 1 + WD.length + OT.length := by omega
        have n4 : ¬ 9223372036854775807 < DK.length + 1 + WD.length + OT.length + 1 := by omega
        have hwz : 0 < b := by have := (unhide HO1).lt; omega
        have hwb : b < wr.heap.size := by obtain ⟨_, hq⟩ | ⟨_, hq⟩ := hib <;> (obtain ⟨v, hv, _⟩ := hq; exact lt_of_block hv)
        clear hc hx hkp hib HX hxc hf hn ho o1 o2 hs
        go_wp2_with fail
        clear hWX
        go_region_held3 (fun w' => w'.cell? ⟨wr.heap.size, 0, none⟩ = some (.int .i64 (m : Int)) ∧ w'.cell? ⟨wr.heap.size, 1, none⟩ = some (.int .i64 xn) ∧ w'.cell? ⟨wr.heap.size, 2, none⟩ = some (str xs) ∧ w'.cell? ⟨0, m * 5, none⟩ = some (str WD))
          (go_keep)
          (first
            | (go_at_call 29
               refine (unhide HQ4).mono ?_
               rintro e w5 ⟨rfl, hib5, hk5⟩
               have hnk : ¬ KB w4 b b wr.heap.size := by rintro (q | ⟨_, cc, q⟩); omega; rw [hbk4] at q; cases q
               have hnz : ¬ KB w4 b b 0 := by rintro (q | ⟨q, _⟩) <;> omega
               have z0 := (hk5.cell (o := 0) hx4 hnk).trans y0
               have z1 := (hk5.cell (o := 1) hx4 hnk).trans y1
               have z2 := (hk5.cell (o := 2) hx4 hnk).trans y2
               have z3 := (hk5.cell (o := m * 5) hz4 hnz).trans y3)
            | (go_at_call 31
               refine (unhide HQ3).mono ?_
               rintro e w4 ⟨rfl, hk4⟩
               have y0 := (hk4.cell (o := 0) hx3 id).trans t0
               have y1 := (hk4.cell (o := 1) hx3 id).trans t1
               have y2 := (hk4.cell (o := 2) hx3 id).trans t2
               have y3 := (hk4.cell (o := m * 5) hz3 id).trans t3
               have hx4 := Nat.lt_of_lt_of_le hx3 hk4.size
               have hz4 := Nat.lt_of_lt_of_le hz3 hk4.size
               have hbk4 := (hk4.block wr.heap.size hx3 id).trans ((hk3.block wr.heap.size hxb id).trans hblk)
               have HQ4 := hide ((unhide HWS) (DK ++ [32] ++ WD ++ OT ++ [10]) w4 (ib_keepF (ib_keepF (ib_keepF (unhide HIX) hdx) hk3) hk4) (by simp only [List.length_append, List.length_cons, List.length_nil]; omega) (by have := hdx.size; have := hk3.size; have := hk4.size; omega)))
            | (go_at_call 30
               refine (unhide HQ1).mono ?_
               rintro e w3 ⟨rfl, hk3⟩
               have t0 := (hk3.cell (o := 0) hxb id).trans f0
               have t1 := (hk3.cell (o := 1) hxb id).trans f1
               have t2 := (hk3.cell (o := 2) hxb id).trans f2
               have t3 := (hk3.cell (o := m * 5) hzo id).trans g0
               have hx3 := Nat.lt_of_lt_of_le hxb hk3.size
               have hz3 := Nat.lt_of_lt_of_le hzo hk3.size
               have HQ3 := hide ((unhide HQ2) w3 (((unhide HKX).trans hdx).trans hk3))))
        have HE : Hid ((t ++ (DK ++ [32] ++ WD ++ OT ++ [10])) ++ linesA (k + 1) (l.drop (k + 1)) = linesA 0 l) := by
          show _ = _
          rw [← unhide HS, unhide HD, unhide HLT, List.append_assoc]
        have HKE := hide (keeps_kb ((((unhide HKX).trans hdx).trans hk3).trans hk4) hk5 (by omega))
        have HI5 := hide hib5
        clear hk3 hk4 hk5 hib5 HQ1 HQ2 HQ3 HQ4 HWS z0 z1 z2 z3 y0 y1 y2 y3 t0 t1 t2 t3 HS HD HLT
        go_wp2_with fail
        go_roundw
        case rel => exact ⟨k + 1, t ++ (DK ++ [32] ++ WD ++ OT ++ [10]), by omega, by go_num, HE, by simp only [List.length_append, List.length_cons, List.length_nil]; omega, unhide HI5, unhide HKE⟩
        case measure => simp [intOf]; omega
      · obtain rfl : k = l.length := by omega
        have i2 : ¬ (l.length : Int) < (l.length : Int) := by omega
        have HE : Hid (t = linesA 0 l) := by
          show _ = _
          rw [← unhide HS, List.drop_length, linesA, List.append_nil]
        have HQ := hide (string_v b b t wr hib (by have := hkp.size; omega))
        have HKP := hide hkp
        clear hlt hib hkp HS
        go_wp2_with fail
        refine (unhide HQ).mono ?_
        rintro e w2 ⟨rfl, hbl2⟩
        have hkk : Keeps (fun _ => False) w1 w2 := by
          rw [← hb] at hbl2
          exact Keeps.ofBelow (((unhide HKP).below (Nat.le_refl _) (fun _ q => q.elim)).trans hbl2)
        go_wp2_with fail
        go_ret2
        rw [unhide HR, unhide HE]
        exact ⟨rfl, (unhide HK1).trans hkk⟩
  · have be : (ee != 0) = true := by rw [bne_iff_ne]; exact hee
    have HR : Hid (R = ([], ee)) := by show _ = _; rw [unhide HL, if_neg hee]
    clear HL HZ hee
    go_wp2_with fail
    go_ret2
    rw [unhide HR]
    exact ⟨rfl, unhide HK1⟩

end Go.Proofs.YtcicaifioghciaaGreatDoor
