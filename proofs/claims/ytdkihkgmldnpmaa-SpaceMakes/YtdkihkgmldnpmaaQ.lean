import Derived.Test.YtdkihkgmldnpmaaP
import Derived.Test.YtdkihkgmldnpmaaM
namespace Go.Proofs.Ytdkihkgmldnpmaa
open Go.RowKit Go.Maps

theorem ownsRow_lower {w : World} {B C e size n : Nat} {v : Value} {xs : List Value} (h : w.ownsRow B e size v n xs) (hC : C ≤ B) : w.ownsRow C e size v n xs := by
  refine ⟨h.1, ?_⟩
  rcases h.2 with hn | ⟨g, cap, cur, hv, hb, rest⟩
  · exact Or.inl hn
  · exact Or.inr ⟨g, cap, cur, hv, Nat.le_trans hC hb, rest⟩

structure TR where
  V : Nat
  g1 : Nat
  c1 : Nat
  g2 : Nat
  c2 : Nat
  g3 : Nat
  c3 : Nat
def TR.nv (T : TR) (n : Nat) : Value := .slice (some ⟨T.g1, 0, none⟩) n T.c1
def TR.mv (T : TR) (n : Nat) : Value := .slice (some ⟨T.g2, 0, none⟩) n T.c2
def TR.lv (T : TR) (n : Nat) : Value := .slice (some ⟨T.g3, 0, none⟩) n T.c3
def TR.has (T : TR) (k : Nat) : Prop := k = T.V ∨ k = T.g1 ∨ k = T.g2 ∨ k = T.g3

structure TriBk (w : World) (B t : Nat) (T : TR) (b : Bk) : Prop where
  tri : Tri w B t T.V (T.nv b.n) (T.mv b.n) (T.lv b.n) b.now b.mark b.last
  ln : b.now.length = b.n
  lm : b.mark.length = b.n
  ll : b.last.length = b.n
  n1 : 1 ≤ b.n
  n2 : b.n ≤ 2048

theorem TR.has_of {T : TR} {n k : Nat} (h : T.has k) : triHas T.V (T.nv n) (T.mv n) (T.lv n) k := by
  rcases h with h | h | h | h
  · exact Or.inl h
  · exact Or.inr (Or.inl (by rw [h]; rfl))
  · exact Or.inr (Or.inr (Or.inl (by rw [h]; rfl)))
  · exact Or.inr (Or.inr (Or.inr (by rw [h]; rfl)))
theorem TR.of_has {T : TR} {n k : Nat} (h : triHas T.V (T.nv n) (T.mv n) (T.lv n) k) : T.has k := by
  rcases h with h | h | h | h
  · exact Or.inl h
  · simp [TR.nv, Value.ownBlock] at h; exact Or.inr (Or.inl h.symm)
  · simp [TR.mv, Value.ownBlock] at h; exact Or.inr (Or.inr (Or.inl h.symm))
  · simp [TR.lv, Value.ownBlock] at h; exact Or.inr (Or.inr (Or.inr h.symm))

section
variable {w w' : World} {B t : Nat} {T : TR} {b : Bk}
theorem TriBk.kept (h : TriBk w B t T b) {F : Nat → Prop} (hk : Keeps F w w') (hF : ∀ k, T.has k → ¬ F k) : TriBk w' B t T b :=
  ⟨h.tri.kept hk (fun k e => hF k (TR.of_has e)), h.ln, h.lm, h.ll, h.n1, h.n2⟩
theorem TriBk.keepF (h : TriBk w B t T b) (hk : Keeps (fun _ => False) w w') : TriBk w' B t T b := h.kept hk (fun _ _ => id)
theorem TriBk.has_lo (h : TriBk w B t T b) : ∀ k, T.has k → B ≤ k := fun k hk => h.tri.has_lo k (TR.has_of hk)
theorem TriBk.has_lt (h : TriBk w B t T b) : ∀ k, T.has k → k < w.heap.size := fun k hk => h.tri.has_lt k (TR.has_of hk)
theorem TriBk.c0 (h : TriBk w B t T b) : w.cell? ⟨T.V, 0, none⟩ = some (.slice (some ⟨T.g1, 0, none⟩) b.n T.c1) := h.tri.c0
theorem TriBk.c1 (h : TriBk w B t T b) : w.cell? ⟨T.V, 1, none⟩ = some (.slice (some ⟨T.g2, 0, none⟩) b.n T.c2) := h.tri.c1
theorem TriBk.c2 (h : TriBk w B t T b) : w.cell? ⟨T.V, 2, none⟩ = some (.slice (some ⟨T.g3, 0, none⟩) b.n T.c3) := h.tri.c2
theorem TriBk.e1 (h : TriBk w B t T b) {i : Nat} (hi : i < b.n) : w.cell? ⟨T.g1, i, none⟩ = some (.bool (on b.now i)) := by
  have hr : w.ownsRow B 4 1 (.slice (some ⟨T.g1, 0, none⟩) b.n T.c1) b.now.length (bl b.now) := h.tri.r1
  rw [← h.ln] at hr
  exact row_cell hr (by rw [h.ln]; exact hi)
theorem TriBk.e2 (h : TriBk w B t T b) {i : Nat} (hi : i < b.n) : w.cell? ⟨T.g2, i, none⟩ = some (.bool (on b.mark i)) := by
  have hr : w.ownsRow B 4 1 (.slice (some ⟨T.g2, 0, none⟩) b.n T.c2) b.mark.length (bl b.mark) := h.tri.r2
  rw [← h.lm] at hr
  exact row_cell hr (by rw [h.lm]; exact hi)
theorem TriBk.e3 (h : TriBk w B t T b) {i : Nat} (hi : i < b.n) : w.cell? ⟨T.g3, i, none⟩ = some (.bool (on b.last i)) := by
  have hr : w.ownsRow B 4 1 (.slice (some ⟨T.g3, 0, none⟩) b.n T.c3) b.last.length (bl b.last) := h.tri.r3
  rw [← h.ll] at hr
  exact row_cell hr (by rw [h.ll]; exact hi)
theorem TriBk.f1 (h : TriBk w B t T b) (i : Nat) : w.frozen? ⟨T.g1, i, none⟩ = false := by
  obtain ⟨cur, hc⟩ := ownsRow_block h.tri.r1 (k := T.g1) rfl
  exact frozen_of_blk hc i
theorem TriBk.rowNow (h : TriBk w B t T b) : Cells w (.slice (some ⟨T.g1, 0, none⟩) b.n T.c1) (bl b.now) := by
  have := cells_row h.tri.r1 (bl_length _)
  exact this
theorem TriBk.rowMark (h : TriBk w B t T b) : Cells w (.slice (some ⟨T.g2, 0, none⟩) b.n T.c2) (bl b.mark) := by
  have := cells_row h.tri.r2 (bl_length _)
  exact this

theorem TriBk.turn (h : TriBk w B t T b) (i : Nat) (x : Bool) : TriBk (w.setCell ⟨T.g1, i, none⟩ (.bool x)) B t T { b with now := b.now.set i x } ∧ Keeps T.has w (w.setCell ⟨T.g1, i, none⟩ (.bool x)) := by
  have ht := h.tri
  have e : T.nv b.n = .slice (some ⟨T.g1, 0, none⟩) b.now.length T.c1 := by rw [h.ln]; rfl
  rw [e] at ht
  obtain ⟨h1, h2⟩ := ht.turn i x
  rw [← e] at h1
  exact ⟨⟨h1, by simpa using h.ln, h.lm, h.ll, h.n1, h.n2⟩, h2.mono (fun k _ e => Or.inr (Or.inl e))⟩

theorem TriBk.newMark {w1 : World} (h : TriBk w B t T b) (hk : Keeps (fun _ => False) w w1) {v : Value} (hr : w1.ownsRow w.heap.size 4 1 v b.now.length (bl b.now)) :
    ∃ g c, v = .slice (some ⟨g, 0, none⟩) b.n c ∧ w.heap.size ≤ g ∧ TriBk (w1.setCell ⟨T.V, 1, none⟩ v) B t { T with g2 := g, c2 := c } { b with mark := b.now } ∧ Keeps (fun k => k = T.V) w1 (w1.setCell ⟨T.V, 1, none⟩ v) := by
  obtain ⟨g, c, rfl⟩ := row_form hr (by rw [h.ln]; exact h.n1)
  have hg := (hr.lt g rfl).1
  have hB : B ≤ w.heap.size := Nat.le_trans h.tri.lo (Nat.le_of_lt (lt_of_block h.tri.blk))
  have h1 := h.keepF hk
  obtain ⟨h2, h3⟩ := h1.tri.set1 (ownsRow_lower hr hB) (fun k e e2 => by
      simp [Value.ownBlock, TR.nv] at e e2
      have := h.has_lt T.g1 (Or.inr (Or.inl rfl)); omega) (fun k e e2 => by
      simp [Value.ownBlock, TR.lv] at e e2
      have := h.has_lt T.g3 (Or.inr (Or.inr (Or.inr rfl))); omega)
  rw [h.ln] at h2 h3 ⊢
  exact ⟨g, c, rfl, hg, ⟨h2, h.ln, h.ln, h.ll, h.n1, h.n2⟩, h3⟩
theorem TriBk.newLast {w1 : World} (h : TriBk w B t T b) (hk : Keeps (fun _ => False) w w1) {v : Value} (hr : w1.ownsRow w.heap.size 4 1 v b.now.length (bl b.now)) :
    ∃ g c, v = .slice (some ⟨g, 0, none⟩) b.n c ∧ w.heap.size ≤ g ∧ TriBk (w1.setCell ⟨T.V, 2, none⟩ v) B t { T with g3 := g, c3 := c } { b with last := b.now } ∧ Keeps (fun k => k = T.V) w1 (w1.setCell ⟨T.V, 2, none⟩ v) := by
  obtain ⟨g, c, rfl⟩ := row_form hr (by rw [h.ln]; exact h.n1)
  have hg := (hr.lt g rfl).1
  have hB : B ≤ w.heap.size := Nat.le_trans h.tri.lo (Nat.le_of_lt (lt_of_block h.tri.blk))
  have h1 := h.keepF hk
  obtain ⟨h2, h3⟩ := h1.tri.set2 (ownsRow_lower hr hB) (fun k e e2 => by
      simp [Value.ownBlock, TR.nv] at e e2
      have := h.has_lt T.g1 (Or.inr (Or.inl rfl)); omega) (fun k e e2 => by
      simp [Value.ownBlock, TR.mv] at e e2
      have := h.has_lt T.g2 (Or.inr (Or.inr (Or.inl rfl))); omega)
  rw [h.ln] at h2 h3 ⊢
  exact ⟨g, c, rfl, hg, ⟨h2, h.ln, h.lm, h.ln, h.n1, h.n2⟩, h3⟩
theorem TriBk.newNow {w1 : World} (h : TriBk w B t T b) (hk : Keeps (fun _ => False) w w1) {v : Value} (hr : w1.ownsRow w.heap.size 4 1 v b.mark.length (bl b.mark)) :
    ∃ g c, v = .slice (some ⟨g, 0, none⟩) b.n c ∧ w.heap.size ≤ g ∧ TriBk (w1.setCell ⟨T.V, 0, none⟩ v) B t { T with g1 := g, c1 := c } { b with now := b.mark } ∧ Keeps (fun k => k = T.V) w1 (w1.setCell ⟨T.V, 0, none⟩ v) := by
  obtain ⟨g, c, rfl⟩ := row_form hr (by rw [h.lm]; exact h.n1)
  have hg := (hr.lt g rfl).1
  have hB : B ≤ w.heap.size := Nat.le_trans h.tri.lo (Nat.le_of_lt (lt_of_block h.tri.blk))
  have h1 := h.keepF hk
  obtain ⟨h2, h3⟩ := h1.tri.set0 (ownsRow_lower hr hB) (fun k e e2 => by
      simp [Value.ownBlock, TR.mv] at e e2
      have := h.has_lt T.g2 (Or.inr (Or.inr (Or.inl rfl))); omega) (fun k e e2 => by
      simp [Value.ownBlock, TR.lv] at e e2
      have := h.has_lt T.g3 (Or.inr (Or.inr (Or.inr rfl))); omega)
  rw [h.lm] at h2 h3 ⊢
  exact ⟨g, c, rfl, hg, ⟨h2, h.lm, h.lm, h.ll, h.n1, h.n2⟩, h3⟩
end

set_option maxRecDepth 100000 in
set_option maxHeartbeats 400000 in
theorem gave_any (w : World) (B t : Nat) (T : TR) (b : Bk) (h : TriBk w B t T b) (k : Int) :
    Calls Try.prog 22 #[.pointer (some ⟨T.V, 0, none⟩), .int .i64 k, .int .i64 (b.giveE k)] w fun e w' => e = .returned (.bool true) ∧ TriBk w' B t T (b.give k) ∧ Keeps T.has w w' := by
  have c0 := h.c0
  have hb2 := h.n2
  have HT := hide h
  by_cases h0 : k < 0
  · have hin : b.inUse k = false := by simp [Bk.inUse]; omega
    have e1 : b.giveE k = 31 := by unfold Bk.giveE; rw [if_neg (by rw [hin]; simp)]
    have e2 : b.give k = b := by unfold Bk.give; rw [if_neg (by rw [hin]; simp)]
    rw [e1, e2]
    clear h hin e1 e2
    go_enter Try.func22, Try.ntmps22
    go_wp2
    go_ret
    exact ⟨rfl, unhide HT, Keeps.refl _ _⟩
  · obtain ⟨i, rfl⟩ := Int.eq_ofNat_of_zero_le (show 0 ≤ k by omega)
    by_cases hi : i < b.n
    · have p0 := h.e1 hi
      have f0 := h.f1 i
      cases hon : on b.now i with
      | true =>
        have hin : b.inUse (i : Int) = true := by simp [Bk.inUse, hon]
        have e1 : b.giveE (i : Int) = 0 := by unfold Bk.giveE; rw [if_pos hin]
        have e2 : b.give (i : Int) = { b with now := b.now.set i false } := by unfold Bk.give; rw [if_pos hin, Int.toNat_natCast]
        rw [e1, e2]
        rw [hon] at p0
        have HU := hide (h.turn i false)
        have i3 : (i : Int) < (b.n : Int) := by omega
        clear h hin e1 e2 hon
        generalize b.n = n at *
        go_enter Try.func22, Try.ntmps22
        go_wp2
        go_ret
        exact ⟨rfl, (unhide HU).1, (unhide HU).2⟩
      | false =>
        have hin : b.inUse (i : Int) = false := by simp [Bk.inUse, hon]
        have e1 : b.giveE (i : Int) = 31 := by unfold Bk.giveE; rw [if_neg (by rw [hin]; simp)]
        have e2 : b.give (i : Int) = b := by unfold Bk.give; rw [if_neg (by rw [hin]; simp)]
        rw [e1, e2]
        rw [hon] at p0
        have i3 : (i : Int) < (b.n : Int) := by omega
        clear h hin e1 e2 hon
        generalize b.n = n at *
        go_enter Try.func22, Try.ntmps22
        go_wp2
        go_ret
        exact ⟨rfl, unhide HT, Keeps.refl _ _⟩
    · have hon : on b.now i = false := on_past (by rw [h.ln]; omega)
      have hin : b.inUse (i : Int) = false := by simp [Bk.inUse, hon]
      have e1 : b.giveE (i : Int) = 31 := by unfold Bk.giveE; rw [if_neg (by rw [hin]; simp)]
      have e2 : b.give (i : Int) = b := by unfold Bk.give; rw [if_neg (by rw [hin]; simp)]
      rw [e1, e2]
      have i3 : (b.n : Int) ≤ (i : Int) := by omega
      clear h hin e1 e2 hon
      generalize b.n = n at *
      go_enter Try.func22, Try.ntmps22
      go_wp2
      go_ret
      exact ⟨rfl, unhide HT, Keeps.refl _ _⟩

set_option maxRecDepth 100000 in
set_option maxHeartbeats 1000000 in
theorem anyOpen_none (w : World) (B t : Nat) (T : TR) (b : Bk) (h : TriBk w B t T b) (ho : ∀ i, i < b.n → b.isOpen i = false) :
    Calls Try.prog 36 #[.pointer (some ⟨T.V, 0, none⟩)] w fun e w' => e = .returned (.bool false) ∧ w' = w := by
  have c0 := h.c0
  have c1 := h.c1
  have c2 := h.c2
  have hb2 := h.n2
  have HT := hide h
  have HO := hide ho
  clear h ho
  go_enter Try.func36, Try.ntmps36
  go_wp2
  go_loop [3] (fun j => ∃ q : Nat, q ≤ b.n ∧ j = .int .i64 q) (fun j => b.n - (intOf j).toNat)
  case atStart => exact ⟨0, Nat.zero_le _, rfl⟩
  case round =>
    obtain ⟨q, hq, rfl⟩ := hrel
    by_cases hlt : q < b.n
    · have p1 := (unhide HT).e1 hlt
      have p2 := (unhide HT).e2 hlt
      have p3 := (unhide HT).e3 hlt
      have hop := unhide HO q hlt
      unfold Bk.isOpen at hop
      have i3 : (q : Int) < (b.n : Int) := by omega
      have i4 : (0 : Int) ≤ (q : Int) := by omega
      generalize on b.now q = x at *
      generalize on b.mark q = y at *
      generalize on b.last q = z at *
      generalize b.n = n at *
      cases x with
      | true =>
        clear hop
        go_wp2
        go_round
        case rel => exact ⟨q + 1, by omega, by go_num⟩
        case measure => simp [intOf]; omega
      | false =>
        cases y with
        | true =>
          clear hop
          go_wp2
          go_round
          case rel => exact ⟨q + 1, by omega, by go_num⟩
          case measure => simp [intOf]; omega
        | false =>
          cases z with
          | true =>
            clear hop
            go_wp2
            go_round
            case rel => exact ⟨q + 1, by omega, by go_num⟩
            case measure => simp [intOf]; omega
          | false => simp at hop
    · go_wp2
      go_ret
      exact ⟨rfl, rfl⟩

set_option maxRecDepth 100000 in
set_option maxHeartbeats 1000000 in
theorem took_any (w : World) (B t : Nat) (T : TR) (b : Bk) (h : TriBk w B t T b) :
    Calls Try.prog 23 #[.pointer (some ⟨T.V, 0, none⟩), .int .i64 b.takeN, .int .i64 b.takeE] w fun e w' => e = .returned (.bool true) ∧ TriBk w' B t T b.take ∧ Keeps T.has w w' := by
  have HT := hide h
  cases hf : b.first with
  | none =>
    have HA := hide (anyOpen_none w B t T b h (firstTo_none (p := b.isOpen) hf))
    have e1 : b.takeN = 0 := by simp [Bk.takeN, hf]
    have e2 : b.takeE = 30 := by simp [Bk.takeE, hf]
    have e3 : b.take = b := by unfold Bk.take; rw [hf]
    rw [e1, e2, e3]
    clear h hf e1 e2 e3
    go_enter Try.func23, Try.ntmps23
    go_wp2_with fail
    refine (unhide HA).mono ?_; rintro e w ⟨rfl, rfl⟩
    go_wp2
    go_ret
    exact ⟨rfl, unhide HT, Keeps.refl _ _⟩
  | some i =>
    obtain ⟨h1, h2, _⟩ := firstTo_some (p := b.isOpen) hf
    have e1 : b.takeN = i := by simp [Bk.takeN, hf]
    have e2 : b.takeE = 0 := by simp [Bk.takeE, hf]
    have e3 : b.take = { b with now := b.now.set i true } := by unfold Bk.take; rw [hf]
    rw [e1, e2, e3]
    simp only [Bk.isOpen, Bool.and_eq_true, Bool.not_eq_true'] at h2
    have c0 := h.c0
    have c1 := h.c1
    have c2 := h.c2
    have p1 := h.e1 h1
    have p2 := h.e2 h1
    have p3 := h.e3 h1
    rw [h2.1.1] at p1
    rw [h2.1.2] at p2
    rw [h2.2] at p3
    have f0 := h.f1 i
    have hb2 := h.n2
    have HU := hide (h.turn i true)
    have i3 : (i : Int) < (b.n : Int) := by omega
    have i4 : (0 : Int) ≤ (i : Int) := by omega
    clear h h2 hf e1 e2 e3
    generalize b.n = n at *
    go_enter Try.func23, Try.ntmps23
    go_wp2
    go_ret
    exact ⟨rfl, (unhide HU).1, (unhide HU).2⟩

end Go.Proofs.Ytdkihkgmldnpmaa
