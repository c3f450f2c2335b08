import Derived.Test.YtcicaifioghciaaGreatDoorYa
import Derived.Test.YtcicaifioghciaaGreatDoorJzad
import Derived.Test.YtcicaifioghciaaGreatDoorJzac
namespace Go.Proofs.YtcicaifioghciaaGreatDoor
open Go.RowKit Go.Maps
/-- The text of a place's types. -/
def txtP (r : Bool) (st : List Int) : Txt := if r = true then st.map letR else [45]
def rowK (st : List Int) (k : Nat) : List Value := ((st.take k).map fun x => Value.int .u8 (num (letR x))) ++ List.replicate (st.length - k) (.int .u8 0)
theorem rowK_length {st : List Int} {k : Nat} (h : k ≤ st.length) : (rowK st k).length = st.length := by simp [rowK]; omega
theorem rowK_set {st : List Int} {k : Nat} {x : Int} (h : st[k]? = some x) : (rowK st k).set k (.int .u8 (num (letR x))) = rowK st (k + 1) := by
  have hk := (List.getElem?_eq_some_iff.1 h).1
  unfold rowK
  rw [take_snoc st k x h, show st.length - k = (st.length - (k + 1)) + 1 by omega, List.replicate_succ]
  rw [List.set_append_right _ _ (by simp; omega)]
  simp [Nat.min_eq_left (Nat.le_of_lt hk)]
theorem rowK_end (st : List Int) : rowK st st.length = bs (st.map letR) := by
  unfold rowK
  rw [Nat.sub_self, List.take_length]
  simp [bs]
set_option maxRecDepth 100000 in
set_option maxHeartbeats 2000000 in
theorem typesText_v (r u : Bool) (st : List Int) (sv : Value) (w : World) (h : KsAt w sv st) (hl : st.length ≤ 16) (hk : r = true → ∀ k ∈ st, isK k) :
    Calls Tryz.prog 34 #[.agg #[.bool r, sv, .bool u]] w fun e w' => e = .returned (str (txtP r st)) ∧ Keeps (fun _ => False) w w' := by
  obtain ⟨ao, cap, rfl⟩ := RowAt.form h
  obtain ⟨HB, hbb, hbc⟩ := boxed w #[.bool r, .slice ao st.length cap, .bool u] 81
  have s0 := hbc 0 (.bool r) rfl
  have s1 := hbc 1 (.slice ao st.length cap) rfl
  have s2 := hbc 2 (.bool u) rfl
  have HV := hide (h.keepF (unhide HB))
  have HKK := hide hk
  clear hbc h hk
  cases r with
  | false =>
    go_enter Tryz.func34, Tryz.ntmps34
    go_wp2_with fail
    go_ret
    exact ⟨rfl, unhide HB⟩
  | true =>
    generalize hWb : w.alloc (.cells #[.bool true, .slice ao st.length cap, .bool u] 81) = Wb at *
    have hmk := run_mkb st.length st.length (Nat.le_refl _) (by omega)
    have HO := hide (owns_made Wb st.length st.length (Nat.le_refl _) (by omega))
    have HK0 := hide ((Keeps.refl (fun _ => False) Wb).alloc (.cells (madeCells #[.int .u8 0] st.length) 5))
    go_enter Tryz.func34, Tryz.ntmps34
    go_wp2_with fail
    clear hmk hWb
    have hO0 : (Wb.alloc (.cells (madeCells #[.int .u8 0] st.length) 5)).ownsRow Wb.heap.size 5 1 (.slice (some ⟨Wb.heap.size, 0, none⟩) st.length st.length) st.length (rowK st 0) := by
      have := unhide HO
      simpa [rowK] using this
    have HO0 := hide hO0
    clear hO0 HO
    generalize hg : Wb.heap.size = g at *
    generalize Wb.alloc (.cells (madeCells #[.int .u8 0] st.length) 5) = W1 at *
    go_loopw [16] (fun i wr => ∃ k : Nat, k ≤ st.length ∧ i = .int .i64 k ∧ wr.ownsRow g 5 1 (.slice (some ⟨g, 0, none⟩) st.length st.length) st.length (rowK st k) ∧ Keeps (fun _ => False) Wb wr) (fun i _ => st.length - (intOf i).toNat)
    case atStart => exact ⟨0, Nat.zero_le _, rfl, unhide HO0, unhide HK0⟩
    case round =>
      obtain ⟨k, hk, rfl, ho, hkp⟩ := hrel
      by_cases hlt : k < st.length
      · obtain ⟨x, hx⟩ : ∃ x, st[k]? = some x := ⟨_, List.getElem?_eq_getElem hlt⟩
        obtain ⟨b, off, c, ee, hbl, hc⟩ := (unhide HV).cells (by omega)
        simp at ee
        obtain ⟨rfl, rfl⟩ := ee
        have c0 := (hkp.cell hbl id).trans (hc k x hx)
        have f0 := ho.frozenAt k
        obtain ⟨dd, d0⟩ : ∃ dd, wr.cell? ⟨g, k, none⟩ = some dd := ⟨_, (ho.cellAt k (by omega)).trans (List.getElem?_eq_getElem (by rw [rowK_length hk]; exact hlt))⟩
        have HST := hide ((ho.stored k (.int .u8 (num (letR x)))).1)
        rw [rowK_set hx] at HST
        have HKS := hide (hkp.then (keeps_set wr g k (.int .u8 (num (letR x)))) (fun i hi q => by omega))
        have i2 : (k : Int) < (st.length : Int) := by omega
        have i0' : (0 : Int) ≤ (k : Int) := by omega
        have hxK := (unhide HKK) trivial x (List.mem_of_getElem? hx)
        clear hc hx hkp ho
        rcases hxK with rfl | rfl | rfl
        all_goals
          go_wp2_with fail
          go_roundw
          case rel => exact ⟨k + 1, by omega, by go_num, unhide HST, unhide HKS⟩
          case measure => simp [intOf]; omega
      · obtain rfl : k = st.length := by omega
        have i2 : ¬ (st.length : Int) < (st.length : Int) := by omega
        have hcv : (convert 29 9 (.slice (some ⟨g, 0, none⟩) st.length st.length)).run Tryz.prog wr = .ok (str (st.map letR)) wr := by
          have q := conv_bytes wr g st.length (st.map letR) (fun j ch hj => by
            have hjl := (List.getElem?_eq_some_iff.1 hj).1
            rw [List.length_map] at hjl
            rw [ho.cellAt j (by omega), rowK_end]
            simp only [bs, List.getElem?_map, hj, Option.map_some]
            )
          rwa [List.length_map] at q
        have HKE := hide hkp
        clear hlt ho hkp
        go_wp2_with fail
        go_ret
        exact ⟨rfl, (unhide HB).trans (unhide HKE)⟩

end Go.Proofs.YtcicaifioghciaaGreatDoor
