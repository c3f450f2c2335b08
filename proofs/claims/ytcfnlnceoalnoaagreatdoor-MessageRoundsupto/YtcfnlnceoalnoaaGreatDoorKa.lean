import Derived.Test.YtcfnlnceoalnoaaGreatDoorIm
namespace Go.Proofs.YtcfnlnceoalnoaaGreatDoor
open Go.RowKit Go.Maps
/-- A short part, cut off again. -/
theorem text_lay (p r : Txt) (h : p.length ≤ 255) : textP (u8 (p.length : Int) :: (p ++ r)) = some (p, r) := by
  have hn : (u8 (p.length : Int)).toNat = p.length := by
    have := u8_num (n := (p.length : Int)) (by omega) (by omega)
    unfold num at this
    omega
  show (if (p ++ r).length < (u8 (p.length : Int)).toNat then none else some ((p ++ r).take (u8 (p.length : Int)).toNat, (p ++ r).drop (u8 (p.length : Int)).toNat)) = _
  rw [hn, if_neg (by simp), List.take_left', List.drop_left'] <;> rfl
theorem msgOf_back {S : List FieldA} {m : MsgA} (hc : checkM S m = 0) (hI : InR m.vals) : msgOf S m.kind m.key (bodyM S m) = m := by
  obtain ⟨h1, h2, h3, h4, h5⟩ := check_parts hc
  obtain ⟨mk, mkey, mv, mc⟩ := m
  simp only at *
  unfold msgOf bodyM
  rcases shape_kinds h2 with ⟨hk, h⟩ | ⟨hk, h, h'⟩ | ⟨hk, h⟩
  · simp only at hk h
    subst h
    rw [if_pos hk]
    simp only [hk, if_true]
    rw [decode_eq, bytes_back (h4 hk) hI]
  · simp only at hk h h'
    subst h
    subst h'
    simp [hk]
  · simp only at hk h
    subst h
    simp [hk]
/-- A message's bytes with anything behind them: the message, and how many. -/
theorem dec_back {S : List FieldA} {m : MsgA} (hc : checkM S m = 0) (hI : InR m.vals) (r : Txt) : decM S (bytesM S m ++ r) = (m, (bytesM S m).length, 0) := by
  obtain ⟨h1, h2, h3, h4, h5⟩ := check_parts hc
  have hkd : 1 ≤ m.kind ∧ m.kind ≤ 3 := by rcases shape_kinds h2 with ⟨h, _⟩ | ⟨h, _⟩ | ⟨h, _⟩ <;> omega
  have hb := body_96 hc hI
  have hk := (key_16 h3).2
  have e : bytesM S m ++ r = u8 m.kind :: (u8 (m.key.length : Int) :: (m.key ++ (u8 ((bodyM S m).length : Int) :: (bodyM S m ++ r)))) := by unfold bytesM; simp
  have ht : takeM S (bytesM S m ++ r) = some (m, r) := by
    rw [e]
    show (match textP (u8 (m.key.length : Int) :: (m.key ++ (u8 ((bodyM S m).length : Int) :: (bodyM S m ++ r)))) with | none => none | some (key, r1) => match textP r1 with | none => none | some (body, r2) => some (msgOf S (num (u8 m.kind)) key body, r2)) = _
    rw [text_lay _ _ (by omega)]
    simp only
    rw [text_lay _ _ (by omega)]
    simp only
    rw [u8_num (by omega) (by omega), msgOf_back hc hI]
  unfold decM
  rw [if_neg (by simpa using h1), ht]
  simp only
  rw [if_pos hc]
  simp
end Go.Proofs.YtcfnlnceoalnoaaGreatDoor
