import Derived.Test.YtbgapbaeegloaabGreatDoorZf
import Derived.Test.YtbgapbaeegloaabGreatDoorZd
import Derived.Test.YtbgapbaeegloaabGreatDoorJd
namespace Go.Proofs.YtbgapbaeegloaabGreatDoor
open Go.RowKit Go.Maps

/-- What the reference's number answers. -/
def N7A (e : Ending) : Option Nat → Prop
  | some v => e = .returned (.tuple #[.int .i64 (IntKind.i64.wrap (v : Int)), .bool true])
  | none => ∃ n : Int, e = .returned (.tuple #[.int .i64 n, .bool false])

set_option maxRecDepth 100000 in
set_option maxHeartbeats 1000000 in
theorem number7_v (x : Txt) (c : UInt8) (hx0 : x[0]? = some c) (hl : x.length ≤ 256) (w : World) :
    Calls Tryz.prog 20 #[str x] w fun e w' => N7A e (numB x) ∧ Keeps (fun _ => False) w w' := by
  obtain ⟨R, HR⟩ : ∃ R, Hid (numB x = R) := ⟨_, rfl⟩
  rw [unhide HR]
  have h1 := get_lt hx0
  have q0 := str_at hx0
  have ecn : (c.toNat : Int) = num c := rfl
  by_cases h48 : c = 48
  · have hc : num c = 48 := by rw [h48]; rfl
    rw [hc] at ecn
    by_cases h3 : 2 < x.length
    · obtain ⟨z, hx1⟩ : ∃ z, x[1]? = some z := ⟨_, List.getElem?_eq_getElem (by omega)⟩
      have q1 := str_at hx1
      have ezn : (z.toNat : Int) = num z := rfl
      have h3' : (2 : Int) < (x.length : Int) := by omega
      have et : x.take 2 = [48, z] := by
        match x, hx0, hx1 with
        | a :: b :: r, e0, e1 => simp at e0 e1; rw [e0, e1, h48]; rfl
      by_cases h120 : z = 120
      · have hz : num z = 120 := by rw [h120]; rfl
        rw [hz] at ezn
        have HE : Hid (R = digR 16 (x.drop 2) false 0) := by show _ = _; rw [← unhide HR]; unfold numB; rw [if_pos (by rw [et, h120])]
        have HQ := hide (digits16_v (x.drop 2) (by rw [List.length_drop]; omega) w)
        have hsl : (ByteArray.mk x.toArray).extract 2 x.length = ⟨(x.drop 2).toArray⟩ := by rw [ext_str, List.take_of_length_le (by simp)]
        rw [← unhide HE] at HQ
        generalize x.drop 2 = ds at *
        clear et h120 h48 hx0 hx1 HE HR
        go_enter Tryz.func20, Tryz.ntmps20
        go_wp2_with fail
        refine (unhide HQ).mono ?_
        rintro e w2 ⟨he, hk2⟩
        have HK := hide hk2
        clear hk2 HQ
        cases R with
        | none =>
          obtain ⟨n, rfl⟩ := he
          go_wp2_with fail
          go_ret2
          exact ⟨⟨_, rfl⟩, unhide HK⟩
        | some v =>
          obtain rfl := he
          go_wp2_with fail
          rw [wrap64_i64]
          go_ret2
          exact ⟨rfl, unhide HK⟩
      · have hz : (num z == 120) = false := by
          have : num z ≠ 120 := fun e => h120 (num_inj (a := z) (b := 120) e)
          simpa using this
        have HE : Hid (R = none) := by
          show _ = _
          rw [← unhide HR]
          unfold numB
          rw [if_neg (by rw [et]; simp [h120]), if_pos (by rw [hx0, h48]), if_neg (by rintro rfl; simp at h3)]
        have hne : (x == ([48] : Txt)) = false := by
          have : x ≠ [48] := by rintro rfl; simp at h3
          simpa using this
        clear et h120 h48 hx0 hx1 HR
        go_enter Tryz.func20, Tryz.ntmps20
        go_wp2_with fail
        go_ret2
        exact ⟨by rw [unhide HE]; exact ⟨_, rfl⟩, Keeps.refl _ _⟩
    · have h3' : ¬ (2 : Int) < (x.length : Int) := by omega
      by_cases hx : x = [48]
      · subst hx
        have HE : Hid (R = some 0) := by show _ = _; rw [← unhide HR]; decide
        clear h48 hx0 HR
        go_enter Tryz.func20, Tryz.ntmps20
        go_wp2_with fail
        go_ret2
        exact ⟨by rw [unhide HE]; rfl, Keeps.refl _ _⟩
      · have HE : Hid (R = none) := by
          show _ = _
          rw [← unhide HR]
          unfold numB
          have hx2 : x.length = 2 := by
            rcases (by omega : x.length = 1 ∨ x.length = 2) with h | h
            · exfalso
              match x, h, hx0 with
              | [a], _, e => simp at e; exact hx (by rw [e, h48])
            · exact h
          by_cases ht : x.take 2 = [48, 120]
          · rw [if_pos ht, List.drop_eq_nil_of_le (by omega)]; rfl
          · rw [if_neg ht, if_pos (by rw [hx0, h48]), if_neg hx]
        have hne : (x == ([48] : Txt)) = false := by simpa using hx
        clear hx h48 hx0 HR
        go_enter Tryz.func20, Tryz.ntmps20
        go_wp2_with fail
        go_ret2
        exact ⟨by rw [unhide HE]; exact ⟨_, rfl⟩, Keeps.refl _ _⟩
  · have hc : (num c == 48) = false := by
      have : num c ≠ 48 := fun e => h48 (num_inj (a := c) (b := 48) e)
      simpa using this
    have HE : Hid (R = digR 10 x false 0) := by
      show _ = _
      rw [← unhide HR]
      refine numB_ten ?_ (.inl (by rw [hx0]; simpa using h48))
      match x, hx0 with
      | a :: r, e => simp at e; intro q; simp at q; exact h48 (by rw [← e, q.1])
    have HQ := hide (digits10_v x hl w)
    rw [← unhide HE] at HQ
    clear h48 hx0 HE HR
    have cs : (2 : Int) < (x.length : Int) ∨ ¬ (2 : Int) < (x.length : Int) := by omega
    rcases cs with h3 | h3
    all_goals
      go_enter Tryz.func20, Tryz.ntmps20
      go_wp2_with fail
      refine (unhide HQ).mono ?_
      rintro e w2 ⟨he, hk2⟩
      have HK := hide hk2
      clear hk2 HQ
      cases R with
      | none =>
        obtain ⟨n, rfl⟩ := he
        go_wp2_with fail
        go_ret2
        exact ⟨⟨_, rfl⟩, unhide HK⟩
      | some v =>
        obtain rfl := he
        go_wp2_with fail
        rw [wrap64_i64]
        go_ret2
        exact ⟨rfl, unhide HK⟩

end Go.Proofs.YtbgapbaeegloaabGreatDoor
