import Derived.Test.YtbgapbaeegloaaaDoorLi
namespace Go.Proofs.YtbgapbaeegloaaaDoor
open Go.RowKit Go.Maps

theorem bat_keepF {B b : Nat} {p : Value} {l : List Value} {w w' : World} (h : Lib.BuilderAt 41 5 B b p l w) (hk : Keeps (fun _ => False) w w') : Lib.BuilderAt 41 5 B b p l w' := by
  obtain ⟨hB, v, hbk, hown, hne⟩ := h
  exact ⟨hB, v, (hk.block b (lt_of_block hbk) id).trans hbk, ownsRow_kept hown hk (fun _ _ => id), hne⟩
theorem isb_keepF {B b : Nat} {l : List Value} {w w' : World} (h : Lib.IsBuilder 41 5 B b l w) (hk : Keeps (fun _ => False) w w') : Lib.IsBuilder 41 5 B b l w' :=
  h.imp (fun h => bat_keepF h hk) (fun h => bat_keepF h hk)
theorem fresh_isb (w : World) : Lib.IsBuilder 41 5 w.heap.size w.heap.size (bs []) (w.alloc (.cells #[.pointer none, .slice none 0 0] 41)) :=
  .inl ⟨Nat.le_refl _, .slice none 0 0, heap_alloc_new w _, by simpa [bs] using World.ownsRow_nil (w.alloc (.cells #[.pointer none, .slice none 0 0] 41)) w.heap.size 5 1, by simp [Value.ownBlock]⟩

set_option maxRecDepth 100000 in
set_option maxHeartbeats 2000000 in
theorem join_v (l : List TokA) (v : Value) (w : World) (hP : Pow w) (hT : ToksAt w v l) :
    Calls Tryd.prog 9 #[v] w fun e w' => e = .returned (.tuple #[str (joinP l).1, .int .i64 (joinP l).2]) ∧ Keeps (fun _ => False) w w' := by
  obtain ⟨ao, cap, rfl⟩ := RowAt.form hT
  obtain ⟨J, HJP⟩ : ∃ J, Hid (joinP l = J) := ⟨_, rfl⟩
  rw [unhide HJP]
  by_cases h256 : 256 < l.length
  · have HE : Hid (J = ([], 70)) := by show _ = _; rw [← unhide HJP]; unfold joinP; rw [if_pos h256]
    have h' : (256 : Int) < (l.length : Int) := by omega
    clear hT HJP hP
    go_enter Tryd.func9, Tryd.ntmps9
    go_wp2_with fail
    go_ret2
    exact ⟨by rw [unhide HE]; rfl, Keeps.refl _ _⟩
  · have HJQ : Hid (J = if okAll l then (if 256 < (jt (texts l)).length then ([], 70) else (jt (texts l), 0)) else ([], 72)) := by show _ = _; rw [← unhide HJP]; unfold joinP; rw [if_neg h256]
    clear HJP
    have h' : ¬ (256 : Int) < (l.length : Int) := by omega
    have HT := hide hT
    have HP := hide hP
    have hl8 : l.length ≤ 256 := by omega
    have HB0 := hide (fresh_isb w)
    have HW0 : Hid (Below w.heap.size w (w.alloc (.cells #[.pointer none, .slice none 0 0] 41))) := (Below.refl _ _).alloc (Nat.le_refl _) _
    clear hT hP h256
    go_enter Tryd.func9, Tryd.ntmps9
    go_wp2_with fail
    go_loopw [14] (fun i wr => ∃ (k : Nat) (A : Txt), k ≤ l.length ∧ i = .int .i64 k ∧ A.length ≤ 101 * k ∧ Hid (A = jt (texts (l.take k))) ∧ Hid (okAll (l.take k) = true) ∧ Lib.IsBuilder 41 5 w.heap.size w.heap.size (bs A) wr ∧ (0 < k → Bld w.heap.size w.heap.size A wr) ∧ Below w.heap.size w wr) (fun i _ => l.length - (intOf i).toNat)
    case atStart => exact ⟨0, [], Nat.zero_le _, rfl, Nat.zero_le _, by simp [Hid, texts, jt], by simp [Hid, okAll], unhide HB0, fun h => by omega, unhide HW0⟩
    case round =>
      clear HB0 HW0
      obtain ⟨k, A, hk, rfl, hAl, HA, HO, hib, hbl, hlo⟩ := hrel
      have HIB := hide hib
      have HBL := hide hbl
      have HK := hide (Keeps.ofBelow hlo)
      have HLO := hide hlo
      have hsz := hlo.size
      clear hib hbl hlo
      cases hx : l[k]? with
      | none =>
        have h1 := get_ge hx
        obtain rfl : k = l.length := by omega
        clear hx h1
        rw [List.take_length] at HA HO
        have HJ2 := hide (unhide HJQ)
        rw [unhide HO, if_pos rfl, ← unhide HA] at HJ2
        have HN := hide (Tryd.Builder_Len w.heap.size w.heap.size (bs A) wr (unhide HIB))
        rw [bs_length] at HN
        by_cases hA : 256 < A.length
        · rw [if_pos hA] at HJ2
          have hA' : (256 : Int) < (A.length : Int) := by omega
          go_wp2_with fail
          refine (unhide HN).mono ?_
          rintro e w2 ⟨rfl, rfl⟩
          go_wp2_with fail
          go_ret2
          exact ⟨by rw [unhide HJ2]; rfl, unhide HK⟩
        · rw [if_neg hA] at HJ2
          have hA' : ¬ (256 : Int) < (A.length : Int) := by omega
          have HS := hide (string_any w.heap.size w.heap.size A wr (unhide HIB) hsz)
          go_wp2_with fail
          refine (unhide HN).mono ?_
          rintro e w2 ⟨rfl, rfl⟩
          go_wp2_with fail
          refine (unhide HS).mono ?_
          rintro e w3 ⟨rfl, hl3⟩
          have HL3 := hide (Below.trans (unhide HLO) hl3)
          clear hl3
          go_wp2_with fail
          go_ret2
          exact ⟨by rw [unhide HJ2]; rfl, Keeps.ofBelow (unhide HL3)⟩
      | some t =>
        have h1 := get_lt hx
        have hk1 : (k : Int) < (l.length : Int) := by omega
        obtain ⟨b, off, cp, e, hb, hc⟩ := ToksAt.cells ((unhide HT).keepF (unhide HK)) (by omega)
        simp at e
        obtain ⟨rfl, rfl⟩ := e
        obtain ⟨c0, c1, c2, c3⟩ := hc k t hx
        obtain ⟨HX, hxb, hxc⟩ := boxedT wr #[.int .i64 t.kind, str t.text, .int .i64 t.n, .int .i64 t.pos] 25
        have d0 := hxc 0 (.int .i64 t.kind) rfl
        have d1 := hxc 1 (str t.text) rfl
        have d2 := hxc 2 (.int .i64 t.n) rfl
        have d3 := hxc 3 (.int .i64 t.pos) rfl
        have HQ := hide (textOf_v t _ ((unhide HP).keepF ((unhide HK).trans (unhide HX))))
        have HLE := hide (fun h => text_le (t := t) h)
        have HTT := hide (texts_take hx)
        have HOT := hide (okAll_take hx)
        have HNO := hide (fun h => not_ok hx h)
        clear hx hc hxc
        unfold TokA.v at HQ
        generalize textB t = R at *
        obtain ⟨X, ok⟩ := R
        simp only at HQ HLE HTT HOT HNO
        go_wp2_with fail
        refine (unhide HQ).mono ?_
        rintro e w7 ⟨rfl, hk7⟩
        have HK7 := hide ((unhide HX).trans hk7)
        have HL7 : Hid (Below w.heap.size w w7) := Below.trans (unhide HLO) ((unhide HK7).below hsz (fun _ h => h.elim))
        have hsz7 := (unhide HL7).size
        clear hk7
        cases ok with
        | false =>
          have HN : Hid (J = ([], 72)) := by show _ = _; rw [unhide HJQ, (unhide HNO) rfl]; rfl
          go_wp2_with fail
          go_ret2
          exact ⟨by rw [unhide HN]; rfl, Keeps.ofBelow (unhide HL7)⟩
        | true =>
          have hXl : X.length ≤ 100 := (unhide HLE) rfl
          have HO7 : Hid (okAll (l.take (k + 1)) = true) := by show _ = _; rw [unhide HOT, unhide HO]; rfl
          by_cases h0 : k = 0
          · subst h0
            have e0 : A = [] := by have := unhide HA; simpa [texts, jt] using this
            subst e0
            have HW := hide (writeString_any w.heap.size w.heap.size [] X w7 (isb_keepF (unhide HIB) (unhide HK7)) (by simp; omega) hsz7)
            go_wp2_with fail
            refine (unhide HW).mono ?_
            rintro e w8 ⟨rfl, hb8, hl8'⟩
            have HB8 := hide hb8
            have HL8 := hide (Below.trans (unhide HL7) hl8')
            clear hb8 hl8'
            go_wp2_with fail
            go_roundw
            case rel => exact ⟨1, X, by omega, by go_num, by omega, by show _ = _; rw [unhide HTT]; simp [texts, jt], unhide HO7, .inr (unhide HB8), fun _ => unhide HB8, unhide HL8⟩
            case measure => simp [intOf]; omega
          · have hk0 : (0 : Int) < (k : Int) := by omega
            have HJ : Hid (A ++ [32] ++ X = jt (texts (l.take (k + 1)))) := by
              show _ = _
              have h2 : (texts (l.take k)).length = k := by simp [texts]; omega
              rw [unhide HTT, jt_snoc _ _ (by intro e; rw [e] at h2; simp at h2; omega), unhide HA]
            have HW := hide (writeByte_i (t := A) 32 32 rfl (bat_keepF ((unhide HBL) (by omega)) (unhide HK7)) (by omega) hsz7)
            go_wp2_with fail
            refine (unhide HW).mono ?_
            rintro e w8 ⟨rfl, hb8, hl8'⟩
            have HL8 := hide (Below.trans (unhide HL7) hl8')
            have HW2 := hide (writeString_any w.heap.size w.heap.size (A ++ [32]) X w8 (.inr hb8) (by simp; omega) (unhide HL8).size)
            clear hb8 hl8' HW
            go_wp2_with fail
            refine (unhide HW2).mono ?_
            rintro e w9 ⟨rfl, hb9, hl9⟩
            have HB9 := hide hb9
            have HL9 := hide (Below.trans (unhide HL8) hl9)
            clear hb9 hl9
            go_wp2_with fail
            go_roundw
            case rel => exact ⟨k + 1, _, by omega, by go_num, by simp; omega, unhide HJ, unhide HO7, .inr (unhide HB9), fun _ => unhide HB9, unhide HL9⟩
            case measure => simp [intOf]; omega
end Go.Proofs.YtbgapbaeegloaaaDoor
