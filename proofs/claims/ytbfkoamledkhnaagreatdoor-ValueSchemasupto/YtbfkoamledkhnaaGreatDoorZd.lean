import Derived.Test.YtbfkoamledkhnaaGreatDoorZ
namespace Go.Proofs.YtbfkoamledkhnaaGreatDoor
open Go.RowKit Go.Maps

/-- The field that a piece of a schema's text tells. -/
def typeW (t : Txt) : Option Int := if t = [105, 110, 116] then some 1 else if t = [98, 111, 111, 108] then some 2 else if t = [98, 121, 116, 101, 115] then some 3 else none
def colon (p : Txt) : Nat := scan p (fun x => x != 58) 0
def isOpt (t : Txt) : Bool := decide (t.getLast? = some 63)
def sfieldB (p : Txt) : Option FieldA :=
  if colon p = 0 ∨ colon p = p.length then none
  else if (p.take (colon p)).all (fun c => partB (num c)) = false then none
  else
    let t := p.drop (colon p + 1)
    match typeW (if isOpt t then t.dropLast else t) with
    | none => none
    | some ty => some ⟨p.take (colon p), ty, isOpt t⟩
def noField : FieldA := ⟨[], 0, false⟩

theorem typeW_1 {X : Txt} (h : X = [105, 110, 116]) : typeW X = some 1 := by rw [h]; rfl
theorem typeW_2 {X : Txt} (h : X = [98, 111, 111, 108]) : typeW X = some 2 := by rw [h]; rfl
theorem typeW_3 {X : Txt} (h : X = [98, 121, 116, 101, 115]) : typeW X = some 3 := by rw [h]; rfl
theorem typeW_0 {X : Txt} (h1 : ¬ X = [105, 110, 116]) (h2 : ¬ X = [98, 111, 111, 108]) (h3 : ¬ X = [98, 121, 116, 101, 115]) : typeW X = none := by unfold typeW; rw [if_neg h1, if_neg h2, if_neg h3]
theorem ret_fb {D : Option FieldA} {x : FieldA} {b : Bool} (h : D.getD noField = x) (h2 : D.isSome = b) : Ending.returned (.tuple #[.agg #[str x.name, .int .i64 x.type, .bool x.opt], .bool b]) = .returned (.tuple #[.agg #[str (D.getD noField).name, .int .i64 (D.getD noField).type, .bool (D.getD noField).opt], .bool D.isSome]) := by rw [h, h2]

set_option maxRecDepth 100000 in
set_option maxHeartbeats 4000000 in
theorem piece_any (p : Txt) (w : World) (hp : p.length ≤ 1099511627776) :
    Calls Tryz.prog 52 #[str p] w fun e w' => e = .returned (.tuple #[((sfieldB p).getD noField).v, .bool (sfieldB p).isSome]) ∧ Keeps (fun _ => False) w w' := by
  unfold FieldA.v
  obtain ⟨D, HD⟩ : ∃ D, Hid (sfieldB p = D) := ⟨_, rfl⟩
  rw [unhide HD]
  obtain ⟨k, HKK⟩ : ∃ k, Hid (colon p = k) := ⟨_, rfl⟩
  have hkl : k ≤ p.length := by rw [← unhide HKK]; exact scan_le _ _ _ (by omega)
  have HQ := fun w => hide (upTo_any p 0 58 hp w)
  rw [show scan p (fun x => x != 58) 0 = k from unhide HKK, show num 58 = 58 from rfl] at HQ
  have HKB : Hid (Keeps (fun _ => False) w (w.alloc (.cells #[str [], .int .i64 0, .bool false] 56))) := (Keeps.refl _ _).alloc _
  go_enter Tryz.func52, Tryz.ntmps52
  go_wp2_with fail
  refine (unhide (HQ _)).mono ?_
  rintro e w4 ⟨rfl, rfl⟩
  clear HQ
  by_cases hk0 : k = 0 ∨ k = p.length
  · have HE9 : Hid (D = none) := by show _ = _; rw [← unhide HD]; unfold sfieldB; rw [unhide HKK, if_pos hk0]
    by_cases h00 : k = 0
    · subst h00
      go_wp2_with fail
      refine bodyPost_ret (v := .tuple #[.agg #[str [], .int .i64 0, .bool false], .bool false]) (by simp [results, go_sem]) rfl ?_
      exact ⟨ret_fb (x := noField) (by rw [unhide HE9]; rfl) (by rw [unhide HE9]; rfl), unhide HKB⟩
    · have h1 : ((k : Int) == 0) = false := by simp; omega
      have h2 : ((k : Int) == (p.length : Int)) = true := by simp; omega
      clear hk0 h00
      go_wp2_with fail
      refine bodyPost_ret (v := .tuple #[.agg #[str [], .int .i64 0, .bool false], .bool false]) (by simp [results, go_sem]) rfl ?_
      exact ⟨ret_fb (x := noField) (by rw [unhide HE9]; rfl) (by rw [unhide HE9]; rfl), unhide HKB⟩
  have hk1 : ((k : Int) == 0) = false := by simp; omega
  have hk2 : ((k : Int) == (p.length : Int)) = false := by simp; omega
  have hk3 : k < p.length := by omega
  have hk4 : 0 < k := by omega
  go_wp2_with fail
  go_loopw [5] (fun i wr => ∃ (j : Nat), j ≤ k ∧ i = .int .i64 j ∧ Hid ((p.take j).all (fun c => partB (num c)) = true) ∧ wr = w.alloc (.cells #[str [], .int .i64 0, .bool false] 56)) (fun i _ => k - (intOf i).toNat)
  case atStart => exact ⟨0, Nat.zero_le _, rfl, by simp [Hid], rfl⟩
  case round =>
    obtain ⟨j, hj, rfl, HA, rfl⟩ := hrel
    by_cases hjk : j < k
    · obtain ⟨y, hy⟩ : ∃ y, p[j]? = some y := ⟨_, List.getElem?_eq_getElem (by omega)⟩
      have h1 := get_lt hy
      have q := str_at hy
      have e1 : (y.toNat : Int) = num y := rfl
      have HY := hide hy
      have i1 : (j : Int) < (k : Int) := by omega
      clear hy
      go_wp2_with fail
      refine (part_any (num y) _).mono ?_
      rintro e w4 ⟨rfl, rfl⟩
      cases hpt : partB (num y) with
      | true =>
        go_wp2_with fail
        go_roundw
        case rel =>
          refine ⟨j + 1, by omega, by go_num, ?_, trivial⟩
          show _ = true
          rw [take_snoc _ _ _ (unhide HY), List.all_append, unhide HA]
          simp [hpt]
        case measure => simp [intOf]; omega
      | false =>
        have HE9 : Hid (D = none) := by
          show _ = _
          rw [← unhide HD]
          unfold sfieldB
          rw [unhide HKK, if_neg hk0, if_pos]
          rw [List.all_eq_false]
          exact ⟨y, List.mem_of_getElem? (show (p.take k)[j]? = some y by rw [List.getElem?_take, if_pos hjk]; exact unhide HY), by simp [hpt]⟩
        go_wp2_with fail
        refine bodyPost_ret (v := .tuple #[.agg #[str [], .int .i64 0, .bool false], .bool false]) (by simp [results, go_sem]) rfl ?_
        exact ⟨ret_fb (x := noField) (by rw [unhide HE9]; rfl) (by rw [unhide HE9]; rfl), unhide HKB⟩
    · obtain rfl : j = k := by omega
      obtain ⟨t, HT⟩ : ∃ t, Hid (p.drop (j + 1) = t) := ⟨_, rfl⟩
      obtain ⟨nm, HN⟩ : ∃ nm, Hid (p.take j = nm) := ⟨_, rfl⟩
      have htl : t.length ≤ 1099511627776 := by rw [← unhide HT]; simp; omega
      have hx1 : (ByteArray.mk p.toArray).extract 0 j = ⟨nm.toArray⟩ := by rw [ext_str, ← unhide HN]; simp
      have hx2 : (ByteArray.mk p.toArray).extract (j + 1) p.length = ⟨t.toArray⟩ := by rw [ext_str, ← unhide HT, List.take_of_length_le (by simp)]
      have HDE : Hid (D = match typeW (if isOpt t then t.dropLast else t) with | none => none | some ty => some ⟨nm, ty, isOpt t⟩) := by
        show _ = _
        rw [← unhide HD]
        unfold sfieldB
        rw [unhide HKK, if_neg hk0, if_neg (by rw [unhide HA]; simp), unhide HT, unhide HN]
      clear hk0
      have hk5 : (j : Int) + 1 ≤ (p.length : Int) := by omega
      cases hl : t.getLast? with
      | none =>
        obtain rfl : t = [] := by simpa using hl
        have HE9 : Hid (D = none) := by show _ = _; rw [unhide HDE]; rfl
        go_wp2_with fail
        refine bodyPost_ret (v := .tuple #[.agg #[str [], .int .i64 0, .bool false], .bool false]) (by simp [results, go_sem]) rfl ?_
        exact ⟨ret_fb (x := noField) (by rw [unhide HE9]; rfl) (by rw [unhide HE9]; rfl), (unhide HKB).alloc _⟩
      | some y =>
        have hl2 : t[t.length - 1]? = some y := by rw [← List.getLast?_eq_getElem?]; exact hl
        have h1 := get_lt hl2
        have q := str_at hl2
        have e1 : (y.toNat : Int) = num y := rfl
        have hne : (t == []) = false := by cases t <;> simp_all
        by_cases hy : num y = 63
        · have hopt : isOpt t = true := by unfold isOpt; rw [hl, num_inj (a := y) (b := 63) hy]; rfl
          obtain ⟨S, HS⟩ : ∃ S, Hid (t.dropLast = S) := ⟨_, rfl⟩
          have hx3 : (ByteArray.mk t.toArray).extract 0 (t.length - 1) = ⟨S.toArray⟩ := by rw [ext_str, ← unhide HS, List.dropLast_eq_take]; simp
          rw [hopt, if_pos rfl, unhide HS] at HDE
          rw [hy] at e1
          clear hl hl2 hy hopt
          go_wp2_with fail
          · have hc : (S == [105, 110, 116]) = true := by assumption
            have HE9 : Hid (D = some ⟨nm, 1, true⟩) := by show _ = _; rw [unhide HDE, typeW_1 (by simpa using hc)]
            refine bodyPost_ret (v := .tuple #[.agg #[str nm, .int .i64 1, .bool true], .bool true]) (by simp [results, go_sem]) rfl ?_
            exact ⟨ret_fb (x := ⟨nm, 1, true⟩) (by rw [unhide HE9]; rfl) (by rw [unhide HE9]; rfl), ((Keeps.refl _ _).alloc _).alloc _⟩
          · have hc : (S == [98, 111, 111, 108]) = true := by assumption
            have HE9 : Hid (D = some ⟨nm, 2, true⟩) := by show _ = _; rw [unhide HDE, typeW_2 (by simpa using hc)]
            refine bodyPost_ret (v := .tuple #[.agg #[str nm, .int .i64 2, .bool true], .bool true]) (by simp [results, go_sem]) rfl ?_
            exact ⟨ret_fb (x := ⟨nm, 2, true⟩) (by rw [unhide HE9]; rfl) (by rw [unhide HE9]; rfl), ((Keeps.refl _ _).alloc _).alloc _⟩
          · have hc : (S == [98, 121, 116, 101, 115]) = true := by assumption
            have HE9 : Hid (D = some ⟨nm, 3, true⟩) := by show _ = _; rw [unhide HDE, typeW_3 (by simpa using hc)]
            refine bodyPost_ret (v := .tuple #[.agg #[str nm, .int .i64 3, .bool true], .bool true]) (by simp [results, go_sem]) rfl ?_
            exact ⟨ret_fb (x := ⟨nm, 3, true⟩) (by rw [unhide HE9]; rfl) (by rw [unhide HE9]; rfl), ((Keeps.refl _ _).alloc _).alloc _⟩
          · have hc1 : (S == [105, 110, 116]) = false := by assumption
            have hc2 : (S == [98, 111, 111, 108]) = false := by assumption
            have hc3 : (S == [98, 121, 116, 101, 115]) = false := by assumption
            have HE9 : Hid (D = none) := by show _ = _; rw [unhide HDE, typeW_0 (by simpa using hc1) (by simpa using hc2) (by simpa using hc3)]
            refine bodyPost_ret (v := .tuple #[.agg #[str [], .int .i64 0, .bool false], .bool false]) (by simp [results, go_sem]) rfl ?_
            exact ⟨ret_fb (x := noField) (by rw [unhide HE9]; rfl) (by rw [unhide HE9]; rfl), ((Keeps.refl _ _).alloc _).alloc _⟩
        · have hopt : isOpt t = false := by
            unfold isOpt
            rw [hl, decide_eq_false_iff_not]
            simp only [Option.some.injEq]
            rintro rfl
            exact hy rfl
          have hy' : (num y == 63) = false := by simpa using hy
          rw [hopt, if_neg (by simp)] at HDE
          clear hl hl2 hy hopt
          go_wp2_with fail
          · have hc : (t == [105, 110, 116]) = true := by assumption
            have HE9 : Hid (D = some ⟨nm, 1, false⟩) := by show _ = _; rw [unhide HDE, typeW_1 (by simpa using hc)]
            refine bodyPost_ret (v := .tuple #[.agg #[str nm, .int .i64 1, .bool false], .bool true]) (by simp [results, go_sem]) rfl ?_
            exact ⟨ret_fb (x := ⟨nm, 1, false⟩) (by rw [unhide HE9]; rfl) (by rw [unhide HE9]; rfl), ((Keeps.refl _ _).alloc _).alloc _⟩
          · have hc : (t == [98, 111, 111, 108]) = true := by assumption
            have HE9 : Hid (D = some ⟨nm, 2, false⟩) := by show _ = _; rw [unhide HDE, typeW_2 (by simpa using hc)]
            refine bodyPost_ret (v := .tuple #[.agg #[str nm, .int .i64 2, .bool false], .bool true]) (by simp [results, go_sem]) rfl ?_
            exact ⟨ret_fb (x := ⟨nm, 2, false⟩) (by rw [unhide HE9]; rfl) (by rw [unhide HE9]; rfl), ((Keeps.refl _ _).alloc _).alloc _⟩
          · have hc : (t == [98, 121, 116, 101, 115]) = true := by assumption
            have HE9 : Hid (D = some ⟨nm, 3, false⟩) := by show _ = _; rw [unhide HDE, typeW_3 (by simpa using hc)]
            refine bodyPost_ret (v := .tuple #[.agg #[str nm, .int .i64 3, .bool false], .bool true]) (by simp [results, go_sem]) rfl ?_
            exact ⟨ret_fb (x := ⟨nm, 3, false⟩) (by rw [unhide HE9]; rfl) (by rw [unhide HE9]; rfl), ((Keeps.refl _ _).alloc _).alloc _⟩
          · have hc1 : (t == [105, 110, 116]) = false := by assumption
            have hc2 : (t == [98, 111, 111, 108]) = false := by assumption
            have hc3 : (t == [98, 121, 116, 101, 115]) = false := by assumption
            have HE9 : Hid (D = none) := by show _ = _; rw [unhide HDE, typeW_0 (by simpa using hc1) (by simpa using hc2) (by simpa using hc3)]
            refine bodyPost_ret (v := .tuple #[.agg #[str [], .int .i64 0, .bool false], .bool false]) (by simp [results, go_sem]) rfl ?_
            exact ⟨ret_fb (x := noField) (by rw [unhide HE9]; rfl) (by rw [unhide HE9]; rfl), ((Keeps.refl _ _).alloc _).alloc _⟩

end Go.Proofs.YtbfkoamledkhnaaGreatDoor
