import Derived.Test.YtlcfdfcnijjkiaaK
namespace Go.Proofs.Ytlcfdfcnijjkiaa
open Go.RowKit Go.Maps

/-- The splitter, the stream, what is kept of the parts; beside them L. -/
structure Sys (w wr : World) (sb : Nat) (rv : Value) (r : Txt) (bb : Bool) (sv : Value) (S : Txt) (kv : Value) (ks : List Value) (hs : List Value) (ps : List Txt) (L : List Itm) : Prop where
  spl : Spl wr w.heap.size sb rv r bb
  new : w.heap.size ≤ sb
  row : wr.ownsRow w.heap.size 27 1 kv ks.length ks
  bag : Bag wr w.heap.size (lone1 rv r :: (L ++ (lone1 sv S :: lones hs ps)))
  keeps : Keeps (fun _ => False) w wr
section
variable {w wr w2 : World} {sb : Nat} {rv rv' : Value} {r r' : Txt} {bb bb' : Bool} {sv : Value} {S : Txt} {kv : Value} {ks hs hs' : List Value} {ps ps' : List Txt} {L M : List Itm}
theorem Sys.keepF (h : Sys w wr sb rv r bb sv S kv ks hs ps L) (hk : Keeps (fun _ => False) wr w2) : Sys w w2 sb rv r bb sv S kv ks hs ps L :=
  ⟨h.spl.keep hk id (fun _ _ => id), h.new, ownsRow_kept h.row hk (fun _ _ => id), h.bag.keepF hk, h.keeps.trans hk⟩
theorem Sys.base (h : Sys w wr sb rv r bb sv S kv ks hs ps L) : w.heap.size ≤ wr.heap.size := h.keeps.size
theorem Sys.rebag (h : Sys w wr sb rv r bb sv S kv ks hs ps L) (hb : Bag wr w.heap.size (lone1 rv r :: (M ++ (lone1 sv S :: lones hs' ps')))) : Sys w wr sb rv r bb sv S kv ks hs' ps' M :=
  ⟨h.spl, h.new, h.row, hb, h.keeps⟩
/-- A list was lent in new memory. -/
theorem Sys.lend {x : Value} {X : Txt} (h : Sys w wr sb rv r bb sv S kv ks hs ps []) (hX : BtAt w2 wr.heap.size x X) (hk : Keeps (fun _ => False) wr w2) : Sys w w2 sb rv r bb sv S kv ks hs ps [lone1 x X] := by
  have h2 := h.keepF hk
  have hb := h.bag.new (p := lone1 x X) h.base hk (lone1_at hX)
  exact h2.rebag (hb.perm (List.Perm.swap _ _ _))
theorem Sys.fed {F : List Txt} {X : Itm} (h : Sys w wr sb rv r bb sv S kv ks hs ps [X]) (hS : Spl w2 w.heap.size sb rv' r' bb') (hb : Bag w2 w.heap.size (lone1 rv' r' :: (lones hs' F ++ ([X] ++ (lone1 sv S :: lones hs ps))))) (hk : Keeps (fun q => q = sb ∨ rv.ownBlock = some q) wr w2) : Sys w w2 sb rv' r' bb' sv S kv ks hs ps (lones hs' F ++ [X]) := by
  refine ⟨hS, h.new, row_spl h.row h.spl hk, by rw [List.append_assoc]; exact hb, narrowO h.keeps hk (fun q e => ?_)⟩
  rcases e with rfl | e
  · exact h.new
  · exact h.spl.row.ge q e
theorem Sys.sv_at (h : Sys w wr sb rv r bb sv S kv ks hs ps L) : BtAt wr w.heap.size sv S :=
  (h.bag.all (lone1 sv S) (List.mem_cons_of_mem _ (List.mem_append_right _ (List.mem_cons_self ..)))).1
theorem perm_mid {a s : Itm} {l m : List Itm} : (s :: (a :: (l ++ m))).Perm (a :: (l ++ (s :: m))) :=
  (List.Perm.swap _ _ _).trans (List.Perm.cons _ List.perm_middle.symm)
theorem Sys.took {g cap : Nat} {o : Obj} {u : Value} (h : Sys w wr sb rv r bb sv S kv ks hs ps L) (hG : GrewL (wr.alloc o) w2 w.heap.size 27 ks.length 1 kv g cap ks [u]) : Sys w w2 sb rv r bb sv S (.slice (some ⟨g, 0, none⟩) (ks.length + 1) cap) (ks ++ [u]) hs ps L := by
  have h1 := h.keepF ((Keeps.refl _ wr).alloc o)
  exact ⟨h1.spl.rowKeep h1.row hG.keeps, h.new, by rw [List.length_append]; exact hG.own, h1.bag.rowKeep h1.row hG.keeps, narrowO h1.keeps hG.keeps (fun q e => own_geO h1.row e)⟩
theorem lones_app {hs hs' : List Value} {ps ps' : List Txt} (h : hs.length = ps.length) : lones (hs ++ hs') (ps ++ ps') = lones hs ps ++ lones hs' ps' := by
  unfold lones
  exact List.zipWith_append h
theorem Sys.merge {X : Itm} (h : Sys w wr sb rv r bb sv S kv ks hs ps (lones hs' ps' ++ [X])) (hl : hs.length = ps.length) : Sys w wr sb rv r bb sv S kv ks (hs ++ hs') (ps ++ ps') [X] := by
  refine h.rebag (h.bag.perm (List.Perm.cons _ ?_))
  rw [lones_app hl]
  have e1 : (lones hs' ps' ++ [X] ++ lone1 sv S :: lones hs ps) = lones hs' ps' ++ (X :: lone1 sv S :: lones hs ps) := by simp
  have e2 : ([X] ++ lone1 sv S :: (lones hs ps ++ lones hs' ps')) = (X :: lone1 sv S :: lones hs ps) ++ lones hs' ps' := by simp
  rw [e1, e2]
  exact List.perm_append_comm
theorem Sys.scrib {g n c : Nat} {X : Txt} (h : Sys w wr sb rv r bb sv S kv ks hs ps [lone1 (.slice (some ⟨g, 0, none⟩) n c) X]) (hk : Keeps (fun q => q = g) wr w2) : Sys w w2 sb rv r bb sv S kv ks hs ps [] := by
  have hb : Bag wr w.heap.size (lone1 (.slice (some ⟨g, 0, none⟩) n c) X :: (lone1 rv r :: (lone1 sv S :: lones hs ps))) := h.bag.perm (List.Perm.swap _ _ _)
  have hx : BtAt wr w.heap.size (.slice (some ⟨g, 0, none⟩) n c) X := (hb.all _ (List.mem_cons_self ..)).1
  obtain ⟨h2, h3⟩ := List.pairwise_cons.1 hb.apart
  have hg : ∀ p ∈ (lone1 rv r :: (lone1 sv S :: lones hs ps)), ∀ b, p.has b → ¬ b = g := fun p hp b hb e => h2 p hp b (Or.inl (by rw [e]; rfl)) hb
  have hb2 : Bag wr w.heap.size (lone1 rv r :: (lone1 sv S :: lones hs ps)) := ⟨fun p hp => hb.all p (List.mem_cons_of_mem _ hp), h3⟩
  refine ⟨h.spl.keep hk (fun e => ?_) (fun q e => hg _ (List.mem_cons_self ..) q (Or.inl e)), h.new, ownsRow_kept h.row hk (fun q e f => ?_), hb2.keep hk hg, narrowO h.keeps hk (fun q e => by rw [e]; exact own_geO hx rfl)⟩
  · obtain ⟨_, c, hc⟩ := own_typed hx rfl
    rw [← e, h.spl.box] at hc
    simp at hc
  · subst f
    exact own_apart hx h.row (by decide) q rfl e
theorem Sys.drop (h : Sys w wr sb rv r bb sv S kv ks hs ps L) : Sys w wr sb rv r bb sv S kv ks hs ps [] := by
  refine h.rebag ⟨fun p hp => h.bag.all p ?_, ?_⟩
  · rcases List.mem_cons.1 hp with rfl | hp
    · exact List.mem_cons_self ..
    · exact List.mem_cons_of_mem _ (List.mem_append_right _ hp)
  · obtain ⟨h2, h3⟩ := List.pairwise_cons.1 h.bag.apart
    exact List.Pairwise.cons (fun p hp => h2 p (List.mem_append_right _ hp)) (List.pairwise_append.1 h3).2.1
end
end Go.Proofs.Ytlcfdfcnijjkiaa
