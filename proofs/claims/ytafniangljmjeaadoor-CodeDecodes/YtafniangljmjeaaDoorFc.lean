import Derived.Test.YtafniangljmjeaaDoorFb
namespace Go.Proofs.YtafniangljmjeaaDoor
open Go.RowKit Go.Maps

set_option maxRecDepth 100000 in
set_option maxHeartbeats 2000000 in
theorem codeInt_v (w : World) (b off cap : Nat) (t : Txt) (hT : Types w) (h : BytesAt w (.slice (some ⟨b, off, none⟩) t.length cap) t) (ht : t.length ≤ 4096) :
    Calls Tryd.prog 44 #[.slice (some ⟨b, off, none⟩) t.length cap] w fun e w' => Keeps (fun _ => False) w w' ∧ ∃ n y ok, e = .returned (.tuple #[.int .i64 n, y, .bool ok]) ∧ TookI w' n y ok (some b) (intP t) := by
  have HF := hide h
  have HT := hide hT
  have hroom := RowAt.room h _ _ _ rfl
  have HQ := hide (indexFunc_v t _ w h ht)
  have hle := endG_le t
  have HRB := hide (rest_bytes h (k := endG t) hle)
  have HFB := hide (first_bytes h (n := endG t) hle)
  have HI : Hid (intP t = (takeG 0 t 0).map fun p => (backB p.1, p.2)) := rfl
  have HN : Hid (takeG 0 t 0 = none → decodeV intS (t.take (endG t)) = ([], 62)) := int_none
  have HS : Hid (∀ U r, takeG 0 t 0 = some (U, r) → decodeV intS (t.take (endG t)) = ([⟨1, backB U, []⟩], 0) ∧ t.drop (endG t) = r ∧ -9223372036854775808 ≤ backB U ∧ backB U ≤ 9223372036854775807) := fun U r => int_some
  have HTL : Hid ((t.take (endG t)).length = endG t) := by show _ = _; rw [List.length_take]; omega
  clear h hT
  generalize endG t = E at *
  have i1 : (E : Int) ≤ (cap : Int) := by omega
  have i2 : (E : Int) ≤ (t.length : Int) := by omega
  have i3 : (t.length : Int) ≤ (cap : Int) := by omega
  have i4 : (0 : Int) ≤ (E : Int) := by omega
  go_enter Tryd.func44, Tryd.ntmps44
  go_wp2_with fail
  refine (unhide HQ).mono ?_
  rintro e w2 ⟨rfl, rfl⟩
  have HSC := fun w3 => hide (intSchema_v w3)
  go_wp2_with fail
  rw [show (1 : Int) + ((E : Int) - 1) = (E : Int) by omega]
  go_region_with (first
    | (go_at_call 57; refine (unhide (HSC _)).mono ?_; rintro e w4 ⟨sv, rfl, hsf, hk4⟩)
    | (go_at_call 61; refine (val_decode intS sv (t.take E) (.slice (some ⟨b, off, none⟩) E cap) w4 (((unhide HT).keepF (Keeps.refl _ w2).drew).keepF hk4) hsf (by have h := ((unhide HFB).keepF (Keeps.refl _ w2).drew).keepF hk4; exact h) (by have := unhide HTL; omega) (Or.inr ⟨b, off, cap, by rw [unhide HTL]⟩)).mono ?_; rintro e w5 ⟨r5, rfl, ho5, hk5⟩))
  have HK5 := hide (((Keeps.refl (fun _ => False) w2).drew.trans hk4).trans hk5)
  have HW5 := hide ho5
  clear HQ HSC hsf hk4 ho5 hk5
  cases hg : takeG 0 t 0 with
  | none =>
    have hd := (unhide HN) hg
    have he := unhide HI
    rw [hg] at he
    simp only [Option.map_none] at he
    rw [hd] at HW5 ⊢
    have HE0 := hide he
    simp only at HW5 ⊢
    clear hg hd he HI HN HS
    go_wp2_with fail
    go_ret3
    rw [unhide HE0]
    exact ⟨unhide HK5, _, _, _, rfl, rfl⟩
  | some p =>
    obtain ⟨U, r⟩ := p
    obtain ⟨hd, hr, hu0, hu1⟩ := (unhide HS) U r hg
    have he := unhide HI
    rw [hg] at he
    simp only [Option.map_some] at he
    rw [hd] at HW5 ⊢
    have HE0 := hide he
    simp only at HW5 ⊢
    rw [hr] at HRB
    clear hg hd he hr HI HN HS
    obtain ⟨g5, cap5, rfl, hg51, hg52⟩ := (unhide HW5).form (by simp)
    obtain ⟨b6, off6, cap6, e6, _, hc6⟩ := (rowAt_own (unhide HW5)).cells (by simp)
    simp at e6
    obtain ⟨⟨rfl, rfl⟩, rfl⟩ := e6
    have q1 := hc6 1 (.int .i64 (backB U)) rfl
    rw [Nat.zero_add] at q1
    have HRB5 := hide ((unhide HRB).keepF (unhide HK5))
    clear hc6 HRB
    simp only [List.length_singleton]
    generalize backB U = n at *
    go_wp2_with fail
    go_region
    have HAB : Hid ((Value.slice (if cap = E then some (⟨b, off, none⟩ : Addr) else some ⟨b, off + E, none⟩) (t.length - E) (cap - E)).ownBlock = some b) := by show _ = _; split <;> rfl
    generalize (if cap = E then some (⟨b, off, none⟩ : Addr) else some ⟨b, off + E, none⟩) = A at *
    go_wp2_with fail
    go_ret3
    rw [unhide HE0]
    exact ⟨(unhide HK5).drew, _, _, _, rfl, rfl, rfl, (unhide HRB5).keepF (Keeps.refl _ _).drew, unhide HAB⟩

end Go.Proofs.YtafniangljmjeaaDoor
