import Derived.Test.YtgdabnkjipcbhaaGreatDoorHk
namespace Go.Proofs.YtgdabnkjipcbhaaGreatDoor
open Go.RowKit Go.Maps

theorem text_len (op n : Int) (s : Txt) (k : EL) (hr : rootB op n s k.len = true) (hw : wellE k = true) (h0 : -9223372036854775808 ≤ n) (h1 : n ≤ 9223372036854775807) (hi : intE k) : (textE op n s k).length + 4 ≤ 300 * (k.size + 1) := by
  have h := tl_le (.cons op n s k .nil) (by simp [wellE, hr, hw]) ⟨⟨h0, h1⟩, hi, trivial⟩
  simp only [tl, EL.size] at h
  omega
/-- writeExpr of every expression that is well made. -/
theorem wrE_v (N : Nat) : ∀ (kids : EL), kids.size < N → kids.size ≤ 2147483647 → ∀ (op n : Int) (s : Txt), rootB op n s kids.len = true → wellE kids = true → -9223372036854775808 ≤ n → n ≤ 9223372036854775807 → intE kids → WrE op n s kids := by
  induction N with
  | zero => intro kids h; omega
  | succ N ih =>
    intro kids hN hsz op n s hr hw h0 h1 hi
    have key : ∀ l : EL, l.size ≤ kids.size → wellE l = true → intE l → KidsW l := by
      intro l
      induction l with
      | nil => exact fun _ _ _ => trivial
      | cons o nn ss k r ihk ihr =>
        intro hl hwl hil
        simp only [EL.size] at hl
        simp only [wellE, Bool.and_eq_true] at hwl
        exact ⟨ih k (by omega) (by omega) o nn ss hwl.1 hwl.2.1 hil.1.1 hil.1.2 hil.2.1, text_len o nn ss k hwl.1 hwl.2.1 hil.1.1 hil.1.2 hil.2.1, ihr (by omega) hwl.2.2 hil.2.2⟩
    exact wrE_step op n s kids hr h0 h1 (key kids (Nat.le_refl _) hw hi) (by have := EL.len_le kids; omega) (text_len op n s kids hr hw h0 h1 hi)
end Go.Proofs.YtgdabnkjipcbhaaGreatDoor
