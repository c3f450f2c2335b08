import Derived.Test.YtjmbcelkhiopeaaRb
namespace Go.Proofs.Ytjmbcelkhiopeaa
open Go.RowKit Go.Maps

def lastL (log : List LW) (a : Nat) : Nat → Option LW
  | 0 => none
  | n + 1 => match log[n]? with
    | some x => if x.sec = a then some x else lastL log a n
    | none => lastL log a n

def RS.behindL (R : RS) (a n : Nat) : List Int := match lastL R.log a n with
  | some x => x.bytes
  | none => secB R a

theorem lcells_get : ∀ (log : List LW) (k : Nat) (x : LW), log[k]? = some x → (lcells log)[k * 2]? = some (.int .i64 x.sec) ∧ (lcells log)[k * 2 + 1]? = some x.v
  | [], k, x, h => by simp at h
  | y :: ys, 0, x, h => by
    simp at h; subst h
    exact ⟨rfl, rfl⟩
  | y :: ys, k + 1, x, h => by
    have ih := lcells_get ys k x (by simpa using h)
    have e : lcells (y :: ys) = .int .i64 y.sec :: y.v :: lcells ys := by simp [lcells]
    rw [e, show (k + 1) * 2 = k * 2 + 1 + 1 by omega, show k * 2 + 1 + 1 + 1 = (k * 2 + 1) + 1 + 1 by omega]
    simpa using ih

theorem lcells_snoc (log : List LW) (x : LW) : lcells (log ++ [x]) = lcells log ++ [.int .i64 x.sec, x.v] := by simp [lcells]

theorem RefAt.lcell {w : World} {B : Nat} {R : RS} (h : RefAt w B R) {k : Nat} {x : LW} (hx : R.log[k]? = some x) :
    ∃ g cap, R.lv = .slice (some ⟨g, 0, none⟩) R.log.length cap ∧ g < w.heap.size ∧ w.cell? ⟨g, k * 2, none⟩ = some (.int .i64 x.sec) ∧ w.cell? ⟨g, k * 2 + 1, none⟩ = some x.v := by
  have hk : k < R.log.length := (List.getElem?_eq_some_iff.1 hx).1
  obtain ⟨g, cap, hv, hb, hlt⟩ := h.row.form (by omega)
  have hc := h.row.cells (g := g) (by rw [hv]; rfl)
  obtain ⟨e1, e2⟩ := lcells_get R.log k x hx
  have q1 := hc _ _ e1
  have q2 := hc _ _ e2
  rw [Addr.add_lit, Nat.zero_add] at q1 q2
  exact ⟨g, cap, hv, hlt, q1, q2⟩

theorem RefAt.form {w : World} {B : Nat} {R : RS} (h : RefAt w B R) : ∃ ao cap, R.lv = .slice ao R.log.length cap := by
  rcases h.row.2 with ⟨hv, hn⟩ | ⟨g, cap, cur, hv, _⟩
  · exact ⟨none, 0, by rw [hn]; exact hv⟩
  · exact ⟨_, cap, hv⟩

theorem row_reads {w : World} {base n : Nat} {v : Value} {l : List Int} (h : w.ownsRow base 5 1 v n (bs l)) : Reads w v l ∧ ∀ b off n c, v = .slice (some ⟨b, off, none⟩) n c → 0 < l.length → b < w.heap.size :=
  ⟨reads_of_row h, fun b off n c e _ => (h.lt b (by rw [e]; rfl)).2⟩

set_option maxRecDepth 100000 in
set_option maxHeartbeats 2000000 in
theorem behind_any (w : World) (B : Nat) (R : RS) (h : RefAt w B R) (a n : Nat) (ha : a < R.secs) (hn : n ≤ R.log.length) (hll : R.log.length ≤ 4294967295) :
    Calls Try.prog 62 #[.pointer (some ⟨R.D, 0, none⟩), .int .i64 a, .int .i64 n] w fun e w' => ∃ v', e = .returned v' ∧ w'.ownsRow w.heap.size 5 1 v' R.size (bs (R.behindL a n)) ∧ Keeps (fun _ => False) w w' := by
  obtain ⟨lo, lc, hlv⟩ := h.form
  have c3 : w.cell? ⟨R.D, 3, none⟩ = some (.slice lo R.log.length lc) := by rw [cell_of_blk h.blk, ← hlv]; rfl
  have HF := hide (first_any w B R h a ha)
  have H := hide h
  have HLV := hide hlv
  clear h hlv
  go_enter Try.func62, Try.ntmps62
  go_wp2
  go_loop [7] (fun i => ∃ k : Nat, k ≤ n ∧ i = .int .i64 ((k : Int) - 1) ∧ lastL R.log a k = lastL R.log a n) (fun i => (intOf i + 1).toNat)
  case atStart => exact ⟨n, Nat.le_refl _, rfl, rfl⟩
  case round =>
    obtain ⟨k, hk, rfl, hlast⟩ := hrel
    have HL := hide hlast
    clear hlast
    by_cases hlt : 1 ≤ k
    · obtain ⟨m, rfl⟩ : ∃ m, k = m + 1 := ⟨k - 1, by omega⟩
      obtain ⟨x, hx⟩ : ∃ x, R.log[m]? = some x := ⟨_, List.getElem?_eq_getElem (by omega)⟩
      obtain ⟨g, cap', e1, hglt, q1, q2⟩ := (unhide H).lcell hx
      have e2 := e1.symm.trans (unhide HLV)
      simp at e2
      obtain ⟨rfl, rfl⟩ := e2
      have HX := hide hx
      have em : ((m + 1 : Nat) : Int) - 1 = (m : Int) := by omega
      rw [em]
      have i1 : (m : Int) < (R.log.length : Int) := by omega
      have i0 : (0 : Int) ≤ (m : Int) := by omega
      clear hx e1
      by_cases hs : x.sec = a
      · have hx := (unhide H).each x (List.mem_of_getElem? (unhide HX))
        obtain ⟨r1, r2⟩ := row_reads hx.2.2
        have hcp := copyBytes_any w x.v x.bytes r1 r2 (by rw [hx.1]; have := (unhide H).size2; omega)
        rw [hx.1] at hcp
        have HCP := hide hcp
        have HB := hide (show R.behindL a n = x.bytes by simp only [RS.behindL]; rw [← unhide HL]; simp [lastL, unhide HX, hs])
        have hse : ((x.sec : Int) == (a : Int)) = true := by rw [hs]; simp
        clear hcp hx r1 r2 hs
        go_wp2_with fail
        refine (unhide HCP).mono ?_
        rintro e w1 ⟨v', rfl, hrow, hkk⟩
        go_wp2
        go_ret
        exact ⟨_, rfl, by rw [unhide HB]; exact hrow, hkk⟩
      · have HB := hide (show lastL R.log a m = lastL R.log a n by rw [← unhide HL]; simp [lastL, unhide HX, hs])
        have hse : ((x.sec : Int) == (a : Int)) = false := beq_eq_false_iff_ne.2 (by omega)
        clear hs
        go_wp2
        go_round
        case rel => exact ⟨m, by omega, by go_num, unhide HB⟩
        case measure => simp [intOf]
    · obtain rfl : k = 0 := by omega
      have HB := hide (show R.behindL a n = secB R a by simp only [RS.behindL]; rw [← unhide HL]; rfl)
      go_wp2_with fail
      refine (unhide HF).mono ?_
      rintro e w1 ⟨v', rfl, hrow, hkk⟩
      go_wp2
      go_ret
      exact ⟨_, rfl, by rw [unhide HB]; exact hrow, hkk⟩

/-- A store into the reference's own block. -/
theorem RefAt.set {w w' : World} {B : Nat} {R R' : RS} (h : RefAt w B R) (hk : Keeps (fun k => k = R.D) w w') (hD : w'.heap[R.D]? = some (.cells R'.cells 103 (0, 0)))
    (e1 : R'.D = R.D) (e2 : R'.secs = R.secs) (e3 : R'.size = R.size) (e4 : R'.bv = R.bv) (e5 : R'.base = R.base) (e6 : R'.lv = R.lv) (e7 : R'.log = R.log) (e8 : R'.firm ≤ R.log.length) : RefAt w' B R' := by
  have hne : ∀ (v : Value) (e : TypeId) (z n : Nat) (xs : List Value), e ≠ 103 → w.ownsRow B e z v n xs → w'.ownsRow B e z v n xs := by
    intro v e z n xs he hr
    refine ownsRow_kept hr hk (fun b hb hF => ?_)
    rcases hr.2 with ⟨hv, _⟩ | ⟨g, cap, cur, hv, _, hg, _⟩
    · rw [hv] at hb; simp [Value.ownBlock] at hb
    · rw [hv] at hb; simp [Value.ownBlock] at hb; subst hb
      rw [hF, h.blk] at hg; simp at hg; exact he hg.2.symm
  refine ⟨by rw [e1]; exact hD, ?_, by rw [e5, e2, e3]; exact h.blen, ?_, ?_, by rw [e7]; exact e8, by rw [e1]; exact h.lo, by rw [e2]; exact h.secs1, by rw [e2]; exact h.secs2, by rw [e3]; exact h.size1, by rw [e3]; exact h.size2⟩
  · rw [e4, e5, e2, e3]
    exact h.base.elim Or.inl (fun h' => Or.inr (hne _ _ _ _ _ (by decide) h'))
  · rw [e6, e7]; exact hne _ _ _ _ _ (by decide) h.row
  · intro x hx
    rw [e7] at hx
    obtain ⟨a, b, c⟩ := h.each x hx
    rw [e2, e3]
    exact ⟨a, b, hne _ _ _ _ _ (by decide) c⟩

def RS.red (R : RS) : RS := { R with r := R.r + 1 }
theorem refRed_at {w : World} {B : Nat} {R : RS} (h : RefAt w B R) : RefAt (w.setCell ⟨R.D, 7, none⟩ (.int .i64 (R.r + 1))) B R.red :=
  h.set (kD _ _ _ _) (by rw [heap_setCell_at h.blk]; rfl) rfl rfl rfl rfl rfl rfl rfl h.firm

set_option maxRecDepth 100000 in
set_option maxHeartbeats 1000000 in
theorem refRead_ok (w : World) (B : Nat) (R : RS) (h : RefAt w B R) (a : Nat) (ha : a < R.secs) (hgone : R.gone = false) (hll : R.log.length ≤ 4294967295) (hr1 : 0 ≤ R.r) (hr2 : R.r ≤ 4294967295) :
    Calls Try.prog 52 #[.pointer (some ⟨R.D, 0, none⟩), .int .i64 a] w fun e w' => ∃ v', e = .returned (.tuple #[v', .int .i64 0]) ∧ w'.ownsRow w.heap.size 5 1 v' R.size (bs (R.behindL a R.log.length)) ∧ RefAt w' B R.red ∧ Keeps (fun k => k = R.D) w w' := by
  obtain ⟨lo, lc, hlv⟩ := h.form
  have c0 : w.cell? ⟨R.D, 0, none⟩ = some (.int .i64 R.secs) := by rw [cell_of_blk h.blk]; rfl
  have c3 : w.cell? ⟨R.D, 3, none⟩ = some (.slice lo R.log.length lc) := by rw [cell_of_blk h.blk, ← hlv]; rfl
  have c6 : w.cell? ⟨R.D, 6, none⟩ = some (.bool false) := by rw [cell_of_blk h.blk, ← hgone]; rfl
  have c7 : w.cell? ⟨R.D, 7, none⟩ = some (.int .i64 R.r) := by rw [cell_of_blk h.blk]; rfl
  have f7 := frozen_of_blk h.blk 7
  have hr := refRed_at h
  have hbh := behind_any _ B R.red hr a R.log.length ha (Nat.le_refl _) hll
  rw [World.size_setCell] at hbh
  have HBH := hide hbh
  have HR := hide hr
  have HK := hide (kD w R.D 7 (.int .i64 (R.r + 1)))
  have h0 : (0 : Int) ≤ (a : Int) := by omega
  have h1 : (a : Int) < (R.secs : Int) := by omega
  clear h hbh hr hlv
  go_enter Try.func52, Try.ntmps52
  go_wp2_with fail
  refine (unhide HBH).mono ?_
  rintro e w1 ⟨v', rfl, hrow, hk1⟩
  go_wp2
  go_ret2
  exact ⟨v', rfl, hrow, (unhide HR).keepF hk1, (unhide HK).trans (hk1.mono (fun _ _ f => f.elim))⟩

end Go.Proofs.Ytjmbcelkhiopeaa
