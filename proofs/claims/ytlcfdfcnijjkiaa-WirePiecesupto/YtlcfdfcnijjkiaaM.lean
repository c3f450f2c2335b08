import Derived.Test.YtlcfdfcnijjkiaaL
import Derived.Maps.AppendAt
namespace Go.Proofs.Ytlcfdfcnijjkiaa
open Go.RowKit Go.Maps

set_option maxRecDepth 100000 in
theorem run_append_none (w : World) (ty : TypeId) (ao : Option Addr) (n c xc : Nat) (hnc : n ≤ c) : (Builtin.append_ #[27, 27] ty #[.slice ao n c, .slice none 0 xc]).run Try.prog w = .ok (.slice ao n c) w := by
  obtain ⟨i0, hi, hz0, hz1, hz2⟩ := info_parts Try.info5
  cases ao <;> simp [Builtin.append_, Builtin.lenOf, Builtin.firstCells, storeCells, go_sem, sizeOf, typeInfo, hi, hnc]
/-- What an append of any bytes has laid. -/
structure GrewA (w w' : World) (base : Nat) (v v' : Value) (l : Txt) : Prop where
  own : BtAt w' base v' l
  keeps : Keeps (fun q => v.ownBlock = some q) w w'
  at_ : ∀ q, v'.ownBlock = some q → v.ownBlock = some q ∨ w.heap.size ≤ q
/-- Bytes appended to bytes of one's own, however many. -/
theorem run_append_any (w : World) (ty : TypeId) (base : Nat) (v : Value) (S : Txt) (hown : BtAt w base v S) (u : Value) (G : Txt) (hu : BytesAt w u G) (h63 : S.length + G.length ≤ 140737488355328) (hbase : base ≤ w.heap.size) :
    ∃ v' w', (Builtin.append_ #[27, 27] ty #[v, u]).run Try.prog w = .ok v' w' ∧ GrewA w w' base v v' (S ++ G) := by
  obtain ⟨i0, hi, hz0, hz1, hz2⟩ := info_parts Try.info5
  obtain ⟨uo, uc, rfl⟩ := RowAt.form hu
  cases uo with
  | none =>
    have h0 : G.length = 0 := by
      rcases Nat.eq_zero_or_pos G.length with h | h
      · exact h
      · obtain ⟨b, off, cap, e, _⟩ := RowAt.cells hu h
        simp at e
    have hG : G = [] := List.eq_nil_of_length_eq_zero h0
    subst hG
    obtain ⟨ao, c, rfl⟩ := (rowAt_own hown).form
    have hnc := (rowAt_own hown).room _ _ _ rfl
    exact ⟨_, w, run_append_none w ty ao _ c uc hnc, by simpa using hown, Keeps.refl _ _, fun q e => Or.inl e⟩
  | some ad =>
    obtain ⟨v', w', hr, h2, h3, _, h5⟩ := run_append_own_at (P := Try.prog) w base 27 ty 5 i0 _ 1 1 Try.underlying27 hi hz0 hz1 hz2 rfl (by omega) v S.length (bs S) hown ad G.length uc (bs G) (by rw [bs_length]; omega) (fun j x hx => by
      have h0 : 0 < G.length := by
        have := (List.getElem?_eq_some_iff.1 hx).1
        rw [bs_length] at this
        omega
      obtain ⟨b, off, cap, e, _, hc⟩ := RowAt.cells hu h0
      simp at e
      obtain ⟨rfl, rfl⟩ := e
      have := hc j x hx
      rw [show (⟨b, off, none⟩ : Addr).add j = ⟨b, off + j, none⟩ by simp only [Addr.add_lit]]
      exact this) (bs_ones G) (by unfold maxLen; omega) (by omega) hbase
    refine ⟨v', w', hr, ?_, (Keeps.refl _ _).grown h3 (fun q e _ => e), fun q e => ?_⟩
    · unfold BtAt
      rw [List.length_append, bs_app]
      exact h2
    · rcases h5 with h5 | h5
      · exact Or.inl (by rw [← h5]; exact e)
      · rw [h5] at e
        simp at e
        exact Or.inr (by omega)
theorem append_any {w : World} {ops : Array Oper} {rest : List Oper} {o : Oper} {a : Act} {Q : Exit → Act → World → Prop} (hgd : o.guard = none) (s x : Operand)
    (ho : o.op = .call { callee := .builtin .append, args := #[s, x], argTypes := #[27, 27] }) (base : Nat) (v : Value) (S : Txt) (hs : a.eval s = v) (hown : BtAt w base v S)
    (u : Value) (G : Txt) (hx : a.eval x = u) (hu : BytesAt w u G) (h63 : S.length + G.length ≤ 140737488355328) (hbase : base ≤ w.heap.size)
    (h : ∀ v' w', GrewA w w' base v v' (S ++ G) → wpList Try.prog ops Q rest (a.put o.dst v') w') : wpList Try.prog ops Q (o :: rest) a w :=
  wpList_plain hgd fun _ hK => by
    obtain ⟨v', w', hr, h2⟩ := run_append_any w o.type base v S hown u G hu h63 hbase
    unfold Oper.wp execOp
    simp only [ho, resolve, invoke, builtin, Sem.run_bind, Sem.run_pure, Result.andThen_ok, List.map_toArray, List.map_cons, List.map_nil, hs, hx, hr]
    exact hK _ _ (h v' w' h2)
section
variable {w wr w2 : World} {sb : Nat} {rv : Value} {r : Txt} {bb : Bool} {sv sv' : Value} {S : Txt} {kv : Value} {ks hs : List Value} {ps : List Txt} {L : List Itm}
theorem Bag.regrow {B : Nat} {v v' : Value} {X X' : Txt} (h : Bag wr B (lone1 v X :: L)) (h' : BtAt w2 B v' X') (hk : Keeps (fun q => v.ownBlock = some q) wr w2) (hat : ∀ q, v'.ownBlock = some q → v.ownBlock = some q ∨ wr.heap.size ≤ q) : Bag w2 B (lone1 v' X' :: L) := by
  obtain ⟨h2, h3⟩ := List.pairwise_cons.1 h.apart
  refine ⟨fun p hp => ?_, List.Pairwise.cons (fun p hp b hb hpb => ?_) h3⟩
  · rcases List.mem_cons.1 hp with rfl | hp
    · exact lone1_at h'
    · exact (h.all p (List.mem_cons_of_mem _ hp)).keep hk (fun b hb e => h2 p hp b (Or.inl e) hb)
  · rcases hat b (lone1_has hb) with e | e
    · exact h2 p hp b (Or.inl e) hpb
    · have := (h.lt (List.mem_cons_of_mem _ hp) hpb).2
      omega
theorem Sys.streamed {l : Txt} (h : Sys w wr sb rv r bb sv S kv ks hs ps L) (hG : GrewA wr w2 w.heap.size sv sv' (S ++ l)) : Sys w w2 sb rv r bb sv' (S ++ l) kv ks hs ps L := by
  have hk := hG.keeps
  have hsv := h.sv_at
  have hap : ∀ q, rv.ownBlock = some q → ¬ sv.ownBlock = some q := fun q e f => (List.pairwise_cons.1 h.bag.apart).1 (lone1 sv S) (List.mem_append_right _ (List.mem_cons_self ..)) q (Or.inl e) (Or.inl f)
  refine ⟨h.spl.keep hk (fun e => ?_) hap, h.new, ownsRow_kept h.row hk (fun q e f => own_apart hsv h.row (by decide) q f e), ?_, narrowO h.keeps hk (fun q e => hsv.ge q e)⟩
  · obtain ⟨_, c, hc⟩ := own_typed hsv e
    rw [h.spl.box] at hc
    simp at hc
  · exact ((h.bag.perm perm_mid.symm).regrow hG.own hk hG.at_).perm perm_mid
end
end Go.Proofs.Ytlcfdfcnijjkiaa
