import Derived.Test.YtdkihkgmldnpmabB
namespace Go.Proofs.Ytdkihkgmldnpmab
open Go.RowKit Go.Maps

structure SP where
  S : Nat
  a : Nat
  b : Nat
  c : Nat
  x : Nat
  y : Nat
  z : Nat
  n : Nat
  now : List Bool
  mark : List Bool
  last : List Bool

def SP.isOpen (s : SP) (i : Nat) : Bool := !on s.now i && !on s.mark i && !on s.last i

/-- The blocks that a space may write. -/
def SP.own (s : SP) (k : Nat) : Prop := k = s.x ∨ k = s.y ∨ k = s.z
/-- The blocks that a space lies in. -/
def SP.has (s : SP) (k : Nat) : Prop := k = s.S ∨ k = s.a ∨ k = s.b ∨ k = s.c ∨ k = s.x ∨ k = s.y ∨ k = s.z
theorem SP.own_has {s : SP} {k : Nat} (h : s.own k) : s.has k := by
  rcases h with h | h | h
  · exact Or.inr (Or.inr (Or.inr (Or.inr (Or.inl h))))
  · exact Or.inr (Or.inr (Or.inr (Or.inr (Or.inr (Or.inl h)))))
  · exact Or.inr (Or.inr (Or.inr (Or.inr (Or.inr (Or.inr h)))))

structure SpaceAt (w : World) (B : Nat) (s : SP) : Prop where
  blk : w.heap[s.S]? = some (.cells #[.int .i64 s.n, .pointer (some ⟨s.a, 0, none⟩), .pointer (some ⟨s.b, 0, none⟩), .pointer (some ⟨s.c, 0, none⟩)] 66 (0, 0))
  now : SetAt w s.a s.x s.n s.now
  mark : SetAt w s.b s.y s.n s.mark
  last : SetAt w s.c s.z s.n s.last
  xy : s.x ≠ s.y
  xz : s.x ≠ s.z
  yz : s.y ≠ s.z
  lo : B ≤ s.x ∧ B ≤ s.y ∧ B ≤ s.z
  n1 : 1 ≤ s.n

theorem SpaceAt.n2 {w : World} {B : Nat} {s : SP} (h : SpaceAt w B s) : s.n ≤ 2048 := h.now.n2
theorem SpaceAt.own_lo {w : World} {B : Nat} {s : SP} (h : SpaceAt w B s) : ∀ k, s.own k → B ≤ k := by
  intro k hk
  have := h.lo
  rcases hk with rfl | rfl | rfl <;> omega
theorem SpaceAt.has_lt {w : World} {B : Nat} {s : SP} (h : SpaceAt w B s) : ∀ k, s.has k → k < w.heap.size := by
  intro k hk
  rcases hk with rfl | rfl | rfl | rfl | rfl | rfl | rfl
  · exact lt_of_block h.blk
  · exact lt_of_block h.now.blk
  · exact lt_of_block h.mark.blk
  · exact lt_of_block h.last.blk
  · exact lt_of_block h.now.bits
  · exact lt_of_block h.mark.bits
  · exact lt_of_block h.last.bits
theorem SpaceAt.c0 {w : World} {B : Nat} {s : SP} (h : SpaceAt w B s) : w.cell? ⟨s.S, 0, none⟩ = some (.int .i64 s.n) := by rw [cell_of_blk h.blk]; rfl
theorem SpaceAt.c1 {w : World} {B : Nat} {s : SP} (h : SpaceAt w B s) : w.cell? ⟨s.S, 1, none⟩ = some (.pointer (some ⟨s.a, 0, none⟩)) := by rw [cell_of_blk h.blk]; rfl
theorem SpaceAt.c2 {w : World} {B : Nat} {s : SP} (h : SpaceAt w B s) : w.cell? ⟨s.S, 2, none⟩ = some (.pointer (some ⟨s.b, 0, none⟩)) := by rw [cell_of_blk h.blk]; rfl
theorem SpaceAt.c3 {w : World} {B : Nat} {s : SP} (h : SpaceAt w B s) : w.cell? ⟨s.S, 3, none⟩ = some (.pointer (some ⟨s.c, 0, none⟩)) := by rw [cell_of_blk h.blk]; rfl
theorem SpaceAt.kept {w w' : World} {B : Nat} {s : SP} (h : SpaceAt w B s) {F : Nat → Prop} (hk : Keeps F w w') (hF : ∀ k, s.has k → ¬ F k) : SpaceAt w' B s where
  blk := by rw [hk.block _ (lt_of_block h.blk) (hF _ (Or.inl rfl))]; exact h.blk
  now := h.now.kept hk (hF _ (Or.inr (Or.inl rfl))) (hF _ (Or.inr (Or.inr (Or.inr (Or.inr (Or.inl rfl))))))
  mark := h.mark.kept hk (hF _ (Or.inr (Or.inr (Or.inl rfl)))) (hF _ (Or.inr (Or.inr (Or.inr (Or.inr (Or.inr (Or.inl rfl)))))))
  last := h.last.kept hk (hF _ (Or.inr (Or.inr (Or.inr (Or.inl rfl))))) (hF _ (Or.inr (Or.inr (Or.inr (Or.inr (Or.inr (Or.inr rfl)))))))
  xy := h.xy
  xz := h.xz
  yz := h.yz
  lo := h.lo
  n1 := h.n1
theorem SpaceAt.keepF {w w' : World} {B : Nat} {s : SP} (h : SpaceAt w B s) (hk : Keeps (fun _ => False) w w') : SpaceAt w' B s := h.kept hk (fun _ _ => id)
theorem SpaceAt.drewN {w : World} {B : Nat} {s : SP} (h : SpaceAt w B s) (n : Nat) : SpaceAt (w.drewN n) B s := h.keepF ((Keeps.refl _ w).drewN n)
theorem SpaceAt.lower {w : World} {B C : Nat} {s : SP} (h : SpaceAt w B s) (hC : C ≤ B) : SpaceAt w C s := ⟨h.blk, h.now, h.mark, h.last, h.xy, h.xz, h.yz, by have := h.lo; omega, h.n1⟩

/-- Blocks of different kinds. -/
theorem blk_ne {w : World} {i j : Nat} {c d : Array Value} {t u : TypeId} {p q : Nat × Nat} (h : w.heap[i]? = some (.cells c t p)) (k : w.heap[j]? = some (.cells d u q)) (htu : t ≠ u) : i ≠ j := by
  rintro rfl
  rw [h] at k
  simp at k
  exact htu k.2.1

theorem SpaceAt.has_kind {w : World} {B : Nat} {s : SP} (h : SpaceAt w B s) {k : Nat} (hk : s.has k) : ∃ c t p, w.heap[k]? = some (.cells c t p) ∧ (t = 66 ∨ t = 63 ∨ t = 5) := by
  rcases hk with rfl | rfl | rfl | rfl | rfl | rfl | rfl
  · exact ⟨_, _, _, h.blk, by simp⟩
  · exact ⟨_, _, _, h.now.blk, by simp⟩
  · exact ⟨_, _, _, h.mark.blk, by simp⟩
  · exact ⟨_, _, _, h.last.blk, by simp⟩
  · exact ⟨_, _, _, h.now.bits, by simp⟩
  · exact ⟨_, _, _, h.mark.bits, by simp⟩
  · exact ⟨_, _, _, h.last.bits, by simp⟩

theorem SpaceAt.upd_now {w w' : World} {B : Nat} {s : SP} (h : SpaceAt w B s) {f : List Bool} (h1 : SetAt w' s.a s.x s.n f) (hk : Keeps (fun k => k = s.x) w w') : SpaceAt w' B { s with now := f } where
  blk := by rw [hk.block _ (lt_of_block h.blk) (blk_ne h.blk h.now.bits (by decide))]; exact h.blk
  now := h1
  mark := h.mark.kept hk (blk_ne h.mark.blk h.now.bits (by decide)) (fun e => h.xy e.symm)
  last := h.last.kept hk (blk_ne h.last.blk h.now.bits (by decide)) (fun e => h.xz e.symm)
  xy := h.xy
  xz := h.xz
  yz := h.yz
  lo := h.lo
  n1 := h.n1
theorem SpaceAt.upd_mark {w w' : World} {B : Nat} {s : SP} (h : SpaceAt w B s) {f : List Bool} (h1 : SetAt w' s.b s.y s.n f) (hk : Keeps (fun k => k = s.y) w w') : SpaceAt w' B { s with mark := f } where
  blk := by rw [hk.block _ (lt_of_block h.blk) (blk_ne h.blk h.mark.bits (by decide))]; exact h.blk
  now := h.now.kept hk (blk_ne h.now.blk h.mark.bits (by decide)) h.xy
  mark := h1
  last := h.last.kept hk (blk_ne h.last.blk h.mark.bits (by decide)) (fun e => h.yz e.symm)
  xy := h.xy
  xz := h.xz
  yz := h.yz
  lo := h.lo
  n1 := h.n1
theorem SpaceAt.upd_last {w w' : World} {B : Nat} {s : SP} (h : SpaceAt w B s) {f : List Bool} (h1 : SetAt w' s.c s.z s.n f) (hk : Keeps (fun k => k = s.z) w w') : SpaceAt w' B { s with last := f } where
  blk := by rw [hk.block _ (lt_of_block h.blk) (blk_ne h.blk h.last.bits (by decide))]; exact h.blk
  now := h.now.kept hk (blk_ne h.now.blk h.last.bits (by decide)) h.xz
  mark := h.mark.kept hk (blk_ne h.mark.blk h.last.bits (by decide)) h.yz
  last := h1
  xy := h.xy
  xz := h.xz
  yz := h.yz
  lo := h.lo
  n1 := h.n1

set_option maxRecDepth 100000 in
set_option maxHeartbeats 400000 in
theorem open_any (w : World) (B : Nat) (s : SP) (h : SpaceAt w B s) (i : Nat) (hi : i < s.n) :
    Calls Try.prog 49 #[.pointer (some ⟨s.S, 0, none⟩), .int .i64 i] w fun e w' => e = .returned (.bool (s.isOpen i)) ∧ ∃ k, w' = w.drewN k := by
  have c1 := h.c1
  have H1 := hide (has_in w s.a s.x s.n s.now h.now i hi)
  have H2 := hide (fun k => has_in _ s.b s.y s.n s.mark (h.mark.drewN k) i hi)
  have H3 := hide (fun k => has_in _ s.c s.z s.n s.last (h.last.drewN k) i hi)
  have c2 : ∀ k, (w.drewN k).cell? ⟨s.S, 2, none⟩ = some (.pointer (some ⟨s.b, 0, none⟩)) := fun k => (h.drewN k).c2
  have c3 : ∀ k, (w.drewN k).cell? ⟨s.S, 3, none⟩ = some (.pointer (some ⟨s.c, 0, none⟩)) := fun k => (h.drewN k).c3
  have HO : Hid (s.isOpen i = (!on s.now i && !on s.mark i && !on s.last i)) := rfl
  generalize s.isOpen i = o at *
  generalize on s.now i = p at *
  generalize on s.mark i = q at *
  generalize on s.last i = r at *
  clear h hi
  obtain ⟨S, a, b, c, x, y, z, n, now, mark, last⟩ := s
  simp only at *
  go_enter Try.func49, Try.ntmps49
  go_wp2_with fail
  refine (unhide H1).mono ?_
  rintro e w1 ⟨rfl, k1, rfl⟩
  have d2 := c2 k1
  cases p with
  | true =>
    go_wp2
    go_ret
    exact ⟨ret_bool (by rw [unhide HO]; rfl), _, rfl⟩
  | false =>
    go_wp2_with fail
    refine (unhide H2 k1).mono ?_
    rintro e w2 ⟨rfl, k2, rfl⟩
    rw [World.drewN_drewN]
    have d3 := c3 (k1 + k2)
    cases q with
    | true =>
      go_wp2
      go_ret
      exact ⟨ret_bool (by rw [unhide HO]; rfl), _, rfl⟩
    | false =>
      go_wp2_with fail
      refine (unhide H3 (k1 + k2)).mono ?_
      rintro e w3 ⟨rfl, k3, rfl⟩
      rw [World.drewN_drewN]
      go_wp2
      go_ret
      exact ⟨ret_bool (by rw [unhide HO]; cases r <;> rfl), _, rfl⟩

end Go.Proofs.Ytdkihkgmldnpmab
