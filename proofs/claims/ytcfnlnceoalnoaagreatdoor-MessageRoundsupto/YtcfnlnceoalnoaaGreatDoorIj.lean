import Derived.Test.YtcfnlnceoalnoaaGreatDoorIi
namespace Go.Proofs.YtcfnlnceoalnoaaGreatDoor
open Go.RowKit Go.Maps
theorem text_cut {t p r : Txt} (h : textP t = some (p, r)) : t = u8 (p.length : Int) :: (p ++ r) := by
  cases t with
  | nil => cases h
  | cons c s =>
    obtain ⟨hl, rfl, rfl⟩ := text_some h
    have hc : (s.take c.toNat).length = c.toNat := by rw [List.length_take]; omega
    rw [hc, List.take_append_drop]
    have : u8 (c.toNat : Int) = c := by have := num_u8 c; exact this
    rw [this]
theorem msgOf_parts (S : List FieldA) (k : Int) (key bd : Txt) : (msgOf S k key bd).kind = k ∧ (msgOf S k key bd).key = key := by
  unfold msgOf
  split <;> exact ⟨rfl, rfl⟩
theorem errR_none {S : List FieldA} : errR S [] ≠ 0 := by
  intro h
  obtain ⟨hs, hl, _⟩ := errR_zero h
  have := (schemaB_len hs).1
  simp at hl
  omega
theorem schema_ok {S : List FieldA} (h : errS S = 0) : schemaB S = true := by
  unfold errS at h
  split at h
  · assumption
  · cases h
theorem msgOf_inR {S : List FieldA} {k : Int} {key bd : Txt} (hs : errS S = 0) : InR (msgOf S k key bd).vals := by
  unfold msgOf
  split
  · rcases decodeV_ok (t := bd) (schema_ok hs) with ⟨r, h, _, hI, _⟩ | h
    · rw [h]; exact hI
    · rw [h]; intro x hx; cases hx
  · intro x hx; cases hx
theorem msgOf_body {S : List FieldA} {k : Int} {key bd : Txt} (hc : checkM S (msgOf S k key bd) = 0) : bodyM S (msgOf S k key bd) = bd := by
  obtain ⟨h1, h2, h3, h4, h5⟩ := check_parts hc
  unfold bodyM
  by_cases hk : k = 1
  · have e : msgOf S k key bd = ⟨k, key, (decodeV S bd).1, []⟩ := by unfold msgOf; rw [if_pos hk]
    rw [e] at h4 ⊢
    simp only at h4 ⊢
    rw [if_pos hk]
    rcases decodeV_ok (t := bd) (schema_ok h1) with ⟨r, h, _, _, he⟩ | h
    · rw [h]; exact he
    · rw [h] at h4
      exact absurd (h4 hk) errR_none
  · have e : msgOf S k key bd = ⟨k, key, [], bd⟩ := by unfold msgOf; rw [if_neg hk]
    rw [e]
    simp only
    rw [if_neg hk]
/-- The only message whose bytes could stand there has these bytes. -/
theorem take_bytes {S : List FieldA} {k : UInt8} {r key r1 bd r2 : Txt} (h1 : textP r = some (key, r1)) (h2 : textP r1 = some (bd, r2)) (hc : checkM S (msgOf S (num k) key bd) = 0) :
    bytesM S (msgOf S (num k) key bd) = (k :: r).take (1 + 1 + key.length + 1 + bd.length) := by
  obtain ⟨e1, e2⟩ := msgOf_parts S (num k) key bd
  unfold bytesM
  rw [e1, e2, msgOf_body hc, num_u8, text_cut h1, text_cut h2]
  have hl : (k :: u8 (key.length : Int) :: (key ++ (u8 (bd.length : Int) :: bd))).length = 1 + 1 + key.length + 1 + bd.length := by simp; omega
  have e : k :: u8 (key.length : Int) :: (key ++ (u8 (bd.length : Int) :: (bd ++ r2))) = (k :: u8 (key.length : Int) :: (key ++ (u8 (bd.length : Int) :: bd))) ++ r2 := by simp
  rw [e, ← hl, List.take_left']
  rfl
end Go.Proofs.YtcfnlnceoalnoaaGreatDoor
