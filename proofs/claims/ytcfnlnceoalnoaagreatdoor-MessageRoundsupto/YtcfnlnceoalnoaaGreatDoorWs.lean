import Derived.Test.YtcfnlnceoalnoaaGreatDoorJu
import Derived.Test.YtcfnlnceoalnoaaGreatDoorRows
namespace Go.Proofs.YtcfnlnceoalnoaaGreatDoor
open Go.ChangeShapes Go.WideShapes Go.ChangeAt Go.RowKit Go.Deep
/-- A message and the two slices that lie in it. -/
structure MsgC where
  m : MsgA
  vv : Value
  cv : Value
instance : Inhabited MsgC := ⟨⟨⟨0, [], [], []⟩, .slice none 0 0, .slice none 0 0⟩⟩
def MsgC.cs (x : MsgC) : List Value := [.int .i64 x.m.kind, str x.m.key, x.vv, x.cv]
/-- What lies behind a message of a row. -/
structure MsgOK (w : World) (x : MsgC) : Prop where
  vals : ValsAt w x.vv x.m.vals
  code : BytesAt w x.cv x.m.code
  inr : InR x.m.vals
  key : x.m.key.length ≤ 140737488355328
  lv : x.m.vals.length ≤ 4398046511104
  lc : x.m.code.length ≤ 140737488355328
theorem MsgOK.keepF {w w' : World} {x : MsgC} (h : MsgOK w x) (hk : Keeps (fun _ => False) w w') : MsgOK w' x := ⟨h.vals.keepF hk, h.code.keepF hk, h.inr, h.key, h.lv, h.lc⟩
/-- A row of messages. -/
structure MsgsAt (w : World) (v : Value) (l : List MsgC) : Prop where
  row : RowAt w v l.length (l.flatMap MsgC.cs)
  ok : ∀ x ∈ l, MsgOK w x
theorem MsgsAt.keepF {w w' : World} {v : Value} {l : List MsgC} (h : MsgsAt w v l) (hk : Keeps (fun _ => False) w w') : MsgsAt w' v l := ⟨RowAt.kept h.row hk (fun _ _ => id), fun x hx => (h.ok x hx).keepF hk⟩
theorem bulk_one {H : Type} (d : DataW H) : 1 ≤ Rows.uptoBulk d := by
  cases d with
  | lit l => cases l <;> simp [Rows.uptoBulk]
  | nil => simp [Rows.uptoBulk]
  | ptr d => simp [Rows.uptoBulk]
  | slice elems spare => simp [Rows.uptoBulk]
  | agg parts => simp [Rows.uptoBulk]
  | iface t d => simp [Rows.uptoBulk]
  | map entries => simp [Rows.uptoBulk]
  | held h => simp [Rows.uptoBulk]
theorem bulk_len {H : Type} : ∀ l : List (DataW H), l.length ≤ Rows.uptoBulkAll l
  | [] => by simp
  | d :: r => by
    have h1 := bulk_one d
    have h2 := bulk_len r
    simp only [Rows.uptoBulkAll, List.length_cons]
    omega
theorem weightsAll_mem {H : Type} {P : Program} {e : TypeId} {n : Nat} {d : DataW H} : ∀ {l : List (DataW H)}, d ∈ l → n ∈ d.weights P e → n ∈ DataW.weightsAll P e l
  | [], h, _ => by cases h
  | y :: r, h, hn => by
    simp only [DataW.weightsAll]
    rcases List.mem_cons.1 h with rfl | h
    · exact List.mem_append_left _ hn
    · exact List.mem_append_right _ (weightsAll_mem h hn)
section
variable {H : Type} {enc : TypeId × Value → H} {W : World} {fuel : Nat}
theorem rowsOfW {α : Type} [Inhabited α] (g : α → List Value) (sz : Nat) (hs : 0 < sz) (hg : ∀ x, (g x).length = sz) {t e : TypeId} (ht : Tryz.prog.underlying t = some (.slice e)) (hc : Tryz.prog.cellsOf e = sz) {Q : α → Prop}
    (el : ∀ (fuel : Nat) (cs : List Value) (x : DataW H × List MemPlace), DataW.trod enc Tryz.prog W 0 (fun _ => true) true fuel e cs = some x → (∀ n ∈ x.1.weights Tryz.prog e, n ≤ reachBytes) → ∃ a, cs = g a ∧ Q a)
    {c : Value} {x : DataW H × List MemPlace} (h : DataW.trod enc Tryz.prog W 0 (fun _ => true) true fuel t [c] = some x) (hw : ∀ n ∈ x.1.weights Tryz.prog t, n ≤ reachBytes) :
    ∃ l : List α, RowAt W c l.length (l.flatMap g) ∧ ∀ a ∈ l, Q a := by
  rcases open_slice ht h with ⟨hcs, _⟩ | ⟨a, len, cap, m, n, D, Pl, hcs, _, hl, hm, hmm, hx, hel⟩
  · simp at hcs
    subst hcs
    exact ⟨[], ⟨⟨_, _, rfl⟩, fun h0 => by simp at h0, fun ao m cap e => by simp at e; omega⟩, fun _ h => by cases h⟩
  · simp at hcs
    subst hcs
    simp at hmm
    rw [hc] at hel
    have hev : ∀ i, i < len → ∃ p : α, (∀ j v, (g p)[j]? = some v → W.cell? ((a.add (i * sz)).add j) = some v) ∧ Q p := by
      intro i hi
      obtain ⟨cs', hcs', htr⟩ := hel i (by omega)
      obtain ⟨p, rfl, hq⟩ := el _ _ _ htr (fun n hn => hw n (by
        rw [hx]
        simp only [DataW.weights, ht]
        exact List.mem_cons_of_mem _ (List.mem_append_left _ (weightsAll_mem (List.mem_map.2 ⟨i, List.mem_range.2 hi, rfl⟩) hn))))
      obtain ⟨_, _, hcc⟩ := World.cells?_some hcs'
      refine ⟨p, fun j v hv => ?_, hq⟩
      have hj := (List.getElem?_eq_some_iff.1 hv).1
      have := hcc j (by rw [hg] at hj; omega)
      rw [this]
      simpa using hv
    obtain ⟨f, hf⟩ := choose_lt hev
    refine ⟨(List.range len).map f, ⟨⟨_, _, by simp; exact ⟨rfl, rfl⟩⟩, fun h0 => ?_, fun ao m cap' e => by simp at e; omega⟩, ?_⟩
    · simp at h0
      have hg0 : 0 < (g (f 0)).length := by rw [hg]; exact hs
      have hc0 := (hf 0 h0).1 0 _ (List.getElem?_eq_getElem hg0)
      have hspot : a.spot = none := by
        have := World.cell?_spot hc0
        simpa [Addr.add] using this
      obtain ⟨b, off, spot⟩ := a
      simp at hspot
      subst hspot
      refine ⟨b, off, cap, by simp, ?_, fun j v hv => ?_⟩
      · have := World.block_lt_of_cell? W _ hc0
        simpa [Addr.add] using this
      · rw [flat_at g sz hs hg] at hv
        cases hi : ((List.range len).map f)[j / sz]? with
        | none => rw [hi] at hv; cases hv
        | some p =>
          rw [hi] at hv
          have hil : j / sz < len := by
            have := (List.getElem?_eq_some_iff.1 hi).1
            simpa using this
          have hpe : f (j / sz) = p := by simpa [hil] using hi
          have := (hf (j / sz) hil).1 (j % sz) v (by rw [hpe]; exact hv)
          simp only [Addr.add_lit] at this
          rw [show off + j = off + j / sz * sz + j % sz by have := Nat.div_add_mod j sz; rw [Nat.mul_comm] at this; omega]
          exact this
    · intro y hy
      obtain ⟨i, hi, rfl⟩ := List.mem_map.1 hy
      exact (hf i (List.mem_range.1 hi)).2


/-- The messages that came in. -/
theorem msgs_in {c : Value} {x : DataW H × List MemPlace} (h : DataW.trod enc Tryz.prog W 0 (fun _ => true) true fuel 39 [c] = some x) (hw : ∀ n ∈ x.1.weights Tryz.prog 39, n ≤ reachBytes) : ∃ l : List MsgC, MsgsAt W c l := by
  obtain ⟨l, hl, hq⟩ := rowsOfW (Q := MsgOK W) MsgC.cs 4 (by omega) (fun _ => rfl) Tryz.underlying39 eMsg (fun fuel cs x h hw => by
    obtain ⟨m, vv, cv, e, h1, h2, h3, h4, h5, h6⟩ := msg_in h hw
    exact ⟨⟨m, vv, cv⟩, e, h1, h2, h3, h4, h5, h6⟩) h hw
  exact ⟨l, hl, hq⟩
theorem bulk_row {t e : TypeId} (ht : Tryz.prog.underlying t = some (.slice e)) {c : Value} {x : DataW H × List MemPlace} (h : DataW.trod enc Tryz.prog W 0 (fun _ => true) true fuel t [c] = some x) {M : Nat} (hb : Rows.uptoBulk x.1 ≤ M) {n : Nat} {xs : List Value} (hr : RowAt W c n xs) : n ≤ M := by
  obtain ⟨ao, cp, hform⟩ := hr.form
  rcases DataW.trod_slice ht h with ⟨hcs, _⟩ | ⟨a, len, cap, elems, rest, n', hn, hcs, hxx, hle, hlc, _, hel, _, _, _⟩
  · simp at hcs
    rw [hcs] at hform
    simp at hform
    omega
  · rw [hxx] at hb
    simp only [Rows.uptoBulk] at hb
    have h1 := bulk_len (elems.map (·.1))
    simp only [List.length_map] at h1
    simp at hcs
    rw [hcs] at hform
    simp at hform
    omega
end
end Go.Proofs.YtcfnlnceoalnoaaGreatDoor
