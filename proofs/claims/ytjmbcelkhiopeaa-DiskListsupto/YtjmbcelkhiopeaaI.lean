import Derived.Test.YtjmbcelkhiopeaaH
namespace Go.Proofs.Ytjmbcelkhiopeaa
open Go.RowKit Go.Maps

/-- One sector of a row of bytes. -/
def secOf (size : Nat) (L : List Int) (a : Nat) : List Int := (L.drop (a * size)).take size

theorem secOf_put_same (size : Nat) (L l : List Int) (a : Nat) (hl : l.length = size) (hL : a * size + size ≤ L.length) : secOf size (put L (a * size) l) a = l := by
  unfold secOf put
  rw [List.append_assoc, List.drop_append_of_le_length (by simp; omega), List.drop_of_length_le (by simp; omega), List.nil_append, ← hl, List.take_left']
  rfl

theorem secOf_put_other (size : Nat) (L l : List Int) (a b : Nat) (hl : l.length = size) (hL : a * size + size ≤ L.length) (hab : a ≠ b) : secOf size (put L (a * size) l) b = secOf size L b := by
  apply List.ext_getElem?
  intro j
  unfold secOf put
  simp only [List.getElem?_take, List.getElem?_drop]
  by_cases hj : j < size
  · simp only [hj, if_true]
    rcases Nat.lt_or_gt_of_ne hab with h | h
    · -- a < b: behind
      have h1 : a * size + size ≤ b * size := by
        have := Nat.mul_le_mul_right size h; rw [Nat.succ_mul] at this; exact this
      rw [List.getElem?_append_right (by simp; omega)]
      simp only [List.getElem?_drop]
      congr 1
      simp
      omega
    · have h1 : b * size + size ≤ a * size := by
        have := Nat.mul_le_mul_right size h; rw [Nat.succ_mul] at this; exact this
      rw [List.append_assoc, List.getElem?_append_left (by simp; omega), List.getElem?_take, if_pos (by omega)]
  · simp [hj]

theorem snocInd {P : List Wr → Prop} (h0 : P []) (h1 : ∀ ws x, P ws → P (ws ++ [x])) (ws : List Wr) : P ws := by
  rw [← List.reverse_reverse ws]
  induction ws.reverse with
  | nil => exact h0
  | cons x xs ih => rw [List.reverse_cons]; exact h1 _ _ ih

/-- What a sector holds behind all writes is what the last of them says. -/
theorem secOf_settleAll (size secs : Nat) (dur : List Int) (hd : dur.length = secs * size) (a : Nat) (ws : List Wr) (h : ∀ x ∈ ws, x.bytes.length = size ∧ x.sec < secs) :
    secOf size (settleAll size dur ws) a = match lastAt a ws with
      | some j => (ws[j]?.map Wr.bytes).getD []
      | none => secOf size dur a := by
  revert h
  refine snocInd (P := fun ws => (∀ x ∈ ws, x.bytes.length = size ∧ x.sec < secs) → secOf size (settleAll size dur ws) a = match lastAt a ws with
      | some j => (ws[j]?.map Wr.bytes).getD []
      | none => secOf size dur a) ?_ ?_ ws
  · intro _; simp [settleAll, lastAt]
  · intro ws x ih h
    have hx := h x (by simp)
    have hws := fun y (hy : y ∈ ws) => h y (by simp [hy])
    have hlen := settleAll_length size secs dur hd ws hws
    rw [settleAll_snoc, lastAt_snoc]
    by_cases e : x.sec = a
    · subst e
      rw [secOf_put_same _ _ _ _ hx.1 (by rw [hlen]; exact sec_fits hx.2)]
      simp
    · rw [secOf_put_other _ _ _ _ _ hx.1 (by rw [hlen]; exact sec_fits hx.2) e, ih hws, if_neg e]
      cases hl : lastAt a ws with
      | none => rfl
      | some j =>
        obtain ⟨y, hy, _⟩ := lastAt_some a ws j hl
        have hj : j < ws.length := (List.getElem?_eq_some_iff.1 hy).1
        simp [List.getElem?_append_left hj]

theorem holdsAt_eq (S : DS) (a : Nat) : S.holdsAt a = match lastAt a S.ws with
      | some j => (S.ws[j]?.map Wr.bytes).getD []
      | none => secOf S.size S.dur a := rfl

theorem holdsAt_flushed {w : World} {B : Nat} {S : DS} (h : DiskAt w B S) (M : DataW Unit) (a : Nat) : (S.flushed M).holdsAt a = S.holdsAt a := by
  rw [holdsAt_eq, holdsAt_eq, ← secOf_settleAll S.size S.secs S.dur h.dlen a S.ws (fun x hx => ⟨(h.each x hx).1, (h.each x hx).2.1⟩)]
  rfl

theorem holdsAt_wrote (S : DS) (a g : Nat) (l : List Int) (wv : Value) (left : Int) (dead : Bool) (wr : Int) (b : Nat) : (S.wrote a g l wv left dead wr).holdsAt b = if a = b then l else S.holdsAt b := by
  rw [holdsAt_eq, holdsAt_eq]
  show (match lastAt b (S.ws ++ [(⟨a, g, l⟩ : Wr)]) with
      | some j => ((S.ws ++ [(⟨a, g, l⟩ : Wr)])[j]?.map Wr.bytes).getD []
      | none => secOf S.size S.dur b) = _
  rw [lastAt_snoc]
  by_cases e : a = b
  · simp [e]
  · simp only [e, if_false]
    cases hl : lastAt b S.ws with
    | none => rfl
    | some j =>
      obtain ⟨y, hy, _⟩ := lastAt_some b S.ws j hl
      have hj : j < S.ws.length := (List.getElem?_eq_some_iff.1 hy).1
      simp [List.getElem?_append_left hj]

/-- One act. -/
structure Pt where
  flush : Bool
  sec : Int
  b : Int

structure Acts (w : World) (v : Value) (acts : List Pt) : Prop where
  form : ∃ ao cap, v = .slice ao acts.length cap
  cells : 0 < acts.length → ∃ b off cap, v = .slice (some ⟨b, off, none⟩) acts.length cap ∧ b < w.heap.size ∧ ∀ i p, acts[i]? = some p →
    w.cell? ⟨b, off + i * 3, none⟩ = some (.bool p.flush) ∧ w.cell? ⟨b, off + i * 3 + 1, none⟩ = some (.int .i64 p.sec) ∧ w.cell? ⟨b, off + i * 3 + 2, none⟩ = some (.int .u8 p.b)

theorem Acts.kept {w w' : World} {v : Value} {acts : List Pt} (h : Acts w v acts) (hb : Below w.heap.size w w') : Acts w' v acts := by
  refine ⟨h.form, fun h0 => ?_⟩
  obtain ⟨b, off, cap, e, hlt, hc⟩ := h.cells h0
  refine ⟨b, off, cap, e, Nat.lt_of_lt_of_le hlt hb.size, fun i p hp => ?_⟩
  obtain ⟨c0, c1, c2⟩ := hc i p hp
  exact ⟨(hb.cell (p := ⟨b, _, none⟩) hlt).trans c0, (hb.cell (p := ⟨b, _, none⟩) hlt).trans c1, (hb.cell (p := ⟨b, _, none⟩) hlt).trans c2⟩

/-- The place of the last write of a sector among the first n acts, or -1. -/
def lastI (acts : List Pt) (a : Int) : Nat → Int
  | 0 => -1
  | n + 1 => match acts[n]? with
    | some p => if p.flush = false ∧ p.sec = a then (n : Int) else lastI acts a n
    | none => lastI acts a n

theorem lastI_lt (acts : List Pt) (a : Int) : ∀ n : Nat, -1 ≤ lastI acts a n ∧ lastI acts a n < n
  | 0 => by simp [lastI]
  | n + 1 => by
    have ih := lastI_lt acts a n
    unfold lastI
    split
    · split
      · omega
      · omega
    · omega

theorem lastI_get (acts : List Pt) (a : Int) : ∀ n : Nat, 0 ≤ lastI acts a n → ∃ p, acts[(lastI acts a n).toNat]? = some p
  | 0 => by simp [lastI]
  | n + 1 => by
    have ih := lastI_get acts a n
    unfold lastI
    split
    · rename_i p hp
      split
      · intro _; exact ⟨p, by simpa using hp⟩
      · exact ih
    · exact ih

set_option maxRecDepth 100000 in
set_option maxHeartbeats 1000000 in
theorem last_any (w : World) (v : Value) (acts : List Pt) (a : Int) (n : Nat) (h : Acts w v acts) (hn : n ≤ acts.length) (hl : acts.length ≤ 2147483647) :
    Calls Try.prog 16 #[v, .int .i64 a, .int .i64 n] w fun e w' => e = .returned (.int .i64 (lastI acts a n)) ∧ w' = w := by
  obtain ⟨ao, cap, rfl⟩ := h.form
  have HA := hide h
  clear h
  go_enter Try.func16, Try.ntmps16
  go_wp2
  go_loop [7] (fun i => ∃ k : Nat, k ≤ n ∧ i = .int .i64 ((k : Int) - 1) ∧ lastI acts a k = lastI acts a n) (fun i => (intOf i + 1).toNat)
  case atStart => exact ⟨n, Nat.le_refl _, rfl, rfl⟩
  case round =>
    obtain ⟨k, hk, rfl, hlast⟩ := hrel
    have HL := hide hlast
    clear hlast
    by_cases hlt : 1 ≤ k
    · obtain ⟨m, rfl⟩ : ∃ m, k = m + 1 := ⟨k - 1, by omega⟩
      obtain ⟨b, off, cap', e1, hblt, hc⟩ := (unhide HA).cells (by omega)
      simp at e1
      obtain ⟨rfl, rfl⟩ := e1
      obtain ⟨p, hp⟩ : ∃ p, acts[m]? = some p := ⟨_, List.getElem?_eq_getElem (by omega)⟩
      obtain ⟨c0, c1, c2⟩ := hc m p hp
      have HP := hide hp
      have em : ((m + 1 : Nat) : Int) - 1 = (m : Int) := by omega
      rw [em]
      have i1 : (m : Int) < (acts.length : Int) := by omega
      have i0 : (0 : Int) ≤ (m : Int) := by omega
      clear hc hp
      cases hf : p.flush with
      | true =>
        rw [hf] at c0
        have HF := hide (show lastI acts a m = lastI acts a n by rw [← unhide HL]; simp [lastI, unhide HP, hf])
        clear hf
        go_wp2
        go_round
        case rel => exact ⟨m, by omega, by go_num, unhide HF⟩
        case measure => simp [intOf]
      | false =>
        rw [hf] at c0
        by_cases hs : p.sec = a
        · have HF := hide (show lastI acts a n = m by rw [← unhide HL]; simp [lastI, unhide HP, hf, hs])
          rw [hs] at c1
          clear hf hs
          go_wp2
          go_ret
          exact ⟨ret_int (unhide HF).symm, rfl⟩
        · have HF := hide (show lastI acts a m = lastI acts a n by rw [← unhide HL]; simp [lastI, unhide HP, hs])
          have hne : (p.sec == a) = false := beq_eq_false_iff_ne.2 hs
          clear hf hs
          go_wp2
          go_round
          case rel => exact ⟨m, by omega, by go_num, unhide HF⟩
          case measure => simp [intOf]
    · obtain rfl : k = 0 := by omega
      have HF := hide (show lastI acts a n = -1 by rw [← unhide HL]; rfl)
      go_wp2
      go_ret
      exact ⟨ret_int (unhide HF).symm, rfl⟩

end Go.Proofs.Ytjmbcelkhiopeaa
