import Derived.Test.YtgdabnkjipcbhaaGreatDoorJzab
namespace Go.Proofs.YtgdabnkjipcbhaaGreatDoor
open Go.RowKit Go.Maps

theorem SlE.open {Z : Zone} {w : World} {up : Nat} {v : Value} {l : EL} (h : SlE Z w up v l) : ∃ ao cap b off, v = .slice ao l.len cap ∧ l.len ≤ cap ∧ (l.len ≠ 0 → ao = some ⟨b, off, none⟩ ∧ Z.P up b) ∧ ExIn Z w l b off := by
  obtain ⟨ao, cap, e, hc, hr⟩ := h
  by_cases h0 : l.len = 0
  · exact ⟨ao, cap, 0, 0, e, hc, fun h => absurd h0 h, by rw [EL.len0 h0]; trivial⟩
  · obtain ⟨b, o, e1, hp, hx⟩ := hr h0
    exact ⟨ao, cap, b, o, e, hc, fun _ => ⟨e1, hp⟩, hx⟩
theorem SlS.open {Z : Zone} {w : World} {up : Nat} {v : Value} {l : SL} (h : SlS Z w up v l) : ∃ ao cap b off, v = .slice ao l.len cap ∧ l.len ≤ cap ∧ (l.len ≠ 0 → ao = some ⟨b, off, none⟩ ∧ Z.P up b) ∧ StIn Z w l b off := by
  obtain ⟨ao, cap, e, hc, hr⟩ := h
  by_cases h0 : l.len = 0
  · exact ⟨ao, cap, 0, 0, e, hc, fun h => absurd h0 h, by rw [SL.len0 h0]; trivial⟩
  · obtain ⟨b, o, e1, hp, hx⟩ := hr h0
    exact ⟨ao, cap, b, o, e, hc, fun _ => ⟨e1, hp⟩, hx⟩
/-- What came in: all blocks below B. -/
def argZ (B : Nat) : Zone := ⟨fun _ _ k => k < B, fun _ _ => True, fun _ _ h => h⟩
section
variable {B c : Nat} {w w' : World} {F : Nat → Prop}
theorem ExIn.argKeep {l : EL} {b o : Nat} (h : ExIn (argZ B) w l b o) (hk : Keeps F w w') (hF : ∀ k, F k → B ≤ k) : ExIn (argZ B) w' l b o :=
  ExIn.keep (Q := fun _ => True) (fun _ _ _ _ => trivial) hk (fun s k _ _ (hg : k < B) => ⟨fun f => by have := hF k f; omega, hg⟩) trivial h
theorem SlE.argKeep {up : Nat} {v : Value} {l : EL} (h : SlE (argZ B) w up v l) (hk : Keeps F w w') (hF : ∀ k, F k → B ≤ k) : SlE (argZ B) w' up v l :=
  SlE.keep (Q := fun _ => True) (fun _ _ _ _ => trivial) hk (fun s k _ _ (hg : k < B) => ⟨fun f => by have := hF k f; omega, hg⟩) trivial h
theorem StIn.argKeep {l : SL} {b o : Nat} (h : StIn (argZ B) w l b o) (hk : Keeps F w w') (hF : ∀ k, F k → B ≤ k) : StIn (argZ B) w' l b o :=
  StIn.keep (Q := fun _ => True) (fun _ _ _ _ => trivial) hk (fun s k _ _ (hg : k < B) => ⟨fun f => by have := hF k f; omega, hg⟩) trivial h
theorem SlS.argKeep {up : Nat} {v : Value} {l : SL} (h : SlS (argZ B) w up v l) (hk : Keeps F w w') (hF : ∀ k, F k → B ≤ k) : SlS (argZ B) w' up v l :=
  SlS.keep (Q := fun _ => True) (fun _ _ _ _ => trivial) hk (fun s k _ _ (hg : k < B) => ⟨fun f => by have := hF k f; omega, hg⟩) trivial h
end

/-- What counting parts leaves: the count, or that there are too many. -/
def PPost (c : Nat) (n : Int) (sz : Nat) (w : World) (e : Ending) (w' : World) : Prop :=
  ∃ (r : Bool) (n' : Int), e = .returned (.bool r) ∧ w'.heap[c]? = some (.cells #[.int .i64 n'] 34 (0, 0)) ∧ Keeps (fun k => k = c) w w' ∧ 0 ≤ n' ∧ (r = false → n' = n + sz ∧ n' ≤ 2147483647)

set_option maxRecDepth 100000 in
set_option maxHeartbeats 800000 in
theorem parts_exprs (B c : Nat) (hBc : B ≤ c) (N : Nat) : ∀ (l : EL), l.size < N → ∀ (w : World) (up : Nat) (v : Value) (n left : Int), SlE (argZ B) w up v l → w.heap[c]? = some (.cells #[.int .i64 n] 34 (0, 0)) → 0 ≤ n → n ≤ 2147483647 → 0 ≤ left → left ≤ 65536 →
    Calls Tryz.prog 10 #[.pointer (some ⟨c, 0, none⟩), v, .int .i64 left] w (PPost c n l.size w) := by
  induction N with
  | zero => intro l h; omega
  | succ N ih =>
    intro l hsz w up v n left hS hb hn0 hn1 hl0 hl1
    obtain ⟨ao, cap, b, off, rfl, hcap, ha, hx⟩ := hS.open
    have IH := hide ih
    have HX := hide hx
    have HA := hide ha
    have HB := hide hb
    clear hS ih hx ha hb
    go_enter Tryz.func10, Tryz.ntmps10
    go_wp2_with fail
    go_loopw [7] (fun i wr => ∃ (rest : EL) (k : Nat) (m : Int), i = .int .i64 k ∧ k + rest.len = l.len ∧ rest.size ≤ l.size ∧ m + rest.size = n + l.size ∧ n + k ≤ m ∧ m ≤ 2147483647 ∧ wr.heap[c]? = some (.cells #[.int .i64 m] 34 (0, 0)) ∧ Keeps (fun k => k = c) w wr ∧ ExIn (argZ B) wr rest b (off + k * 4)) (fun i _ => l.len - (intOf i).toNat)
    case atStart => exact ⟨l, 0, n, rfl, by omega, Nat.le_refl _, rfl, by omega, hn1, unhide HB, Keeps.refl _ _, by simpa using unhide HX⟩
    case round =>
      obtain ⟨rest, k, m, rfl, hkl, hrs, hm, hnk, hm1, hc, hkeep, hr⟩ := hrel
      cases rest with
      | nil =>
        simp only [EL.len, EL.size] at hkl hm hrs
        have HC := hide hc
        have HK := hide hkeep
        clear hc hkeep hr
        have i1 : ¬ (k : Int) < (l.len : Int) := by omega
        go_wp2_with fail
        go_ret
        exact ⟨_, _, rfl, unhide HC, unhide HK, by omega, fun _ => ⟨by omega, hm1⟩⟩
      | cons op nn s kids rest =>
        obtain ⟨h1, h2, h3, h4, h5, ⟨kao, kcap, h6, h7, h8⟩, h9⟩ := hr
        simp only [EL.len, EL.size] at hkl hm hrs
        obtain ⟨rfl, hp⟩ := (unhide HA) (by omega)
        have HKID : Hid (SlE (argZ B) wr b (.slice kao kids.len kcap) kids) := ⟨kao, kcap, rfl, h7, h8⟩
        have HR := hide h9
        have HK := hide hkeep
        have HC := hide hc
        have hcc := cell_of_blk hc 0
        have hfz := frozen_of_blk hc 0
        simp at hcc
        have i1 : (k : Int) < (l.len : Int) := by omega
        have i0 : (0 : Int) ≤ (k : Int) := by omega
        clear hc hkeep h3 h4 h5 h8 h9
        have hbc : b ≠ c := by have : b < B := h2; omega
        have hcb : c ≠ b := fun e => hbc e.symm
        have HC1 : Hid ((wr.setCell ⟨c, 0, none⟩ (.int .i64 (m + 1))).heap[c]? = some (.cells #[.int .i64 (m + 1)] 34 (0, 0))) := by
          have := heap_setCell_at (unhide HC) (o := 0) (.int .i64 (m + 1))
          exact hide (by simpa using this)
        have HK1 : Hid (Keeps (fun k => k = c) w (wr.setCell ⟨c, 0, none⟩ (.int .i64 (m + 1)))) := (unhide HK).setCell (fun _ => rfl) _
        have HKS : Hid (Keeps (fun k => k = c) wr (wr.setCell ⟨c, 0, none⟩ (.int .i64 (m + 1)))) := (Keeps.refl (fun k => k = c) wr).setCell (fun _ => rfl) _
        clear h2
        by_cases hq : left = 0
        · subst hq
          go_wp2_with fail
          go_ret
          exact ⟨true, _, rfl, unhide HC1, unhide HK1, by omega, fun h => by cases h⟩
        · have hq' : (left == 0) = false := by simpa using hq
          by_cases hm2 : m = 2147483647
          · subst hm2
            go_wp2_with fail
            go_ret
            exact ⟨true, _, rfl, unhide HC1, unhide HK1, by omega, fun h => by cases h⟩
          · have hm3 : ¬ (2147483647 : Int) < m + 1 := by omega
            have HCALL := hide (unhide IH kids (by omega) _ b (.slice kao kids.len kcap) (m + 1) (left - 1) ((unhide HKID).argKeep (unhide HKS) (fun k e => by omega)) (unhide HC1) (by omega) (by omega) (by omega) (by omega))
            go_wp2_with (go_at_call 10; refine (unhide HCALL).mono ?_; rintro e w1 ⟨r, n1, rfl, hc1, hk1, hn1, hr1⟩)
            · go_ret
              exact ⟨true, _, rfl, hc1, (unhide HK1).trans hk1, hn1, fun h => by cases h⟩
            · obtain ⟨e1, e2⟩ := hr1 (by cases r <;> simp_all)
              go_roundw
              case rel =>
                refine ⟨rest, k + 1, n1, by go_num, by omega, by omega, by omega, by omega, e2, hc1, (unhide HK1).trans hk1, ?_⟩
                rw [show off + (k + 1) * 4 = off + k * 4 + 4 by omega]
                exact (unhide HR).argKeep ((unhide HKS).trans hk1) (fun k e => by omega)
              case measure => simp [intOf]; omega
end Go.Proofs.YtgdabnkjipcbhaaGreatDoor
