import Derived.Test.YtonodcmbbgpjjaaDoorJy
import Derived.Deep.RegionLaw
import Derived.Deep.AppendLies
namespace Go.Proofs.YtonodcmbbgpjjaaDoor
open Go.RowKit Go.Maps
/-- A step's types as a text. -/
def typT (st : List ValA) : Txt := (st.map ValA.kind).map letR
def stepCs (D : List (Nat × List ValA)) : List Value := D.flatMap fun z => [.int .i64 (z.1 : Int), str (typT z.2)]
theorem stepCs_snoc (D : List (Nat × List ValA)) (z : Nat × List ValA) : stepCs (D ++ [z]) = stepCs D ++ [.int .i64 (z.1 : Int), str (typT z.2)] := by simp [stepCs]
theorem Tryd.info46 : (Tryd.prog.info? 46).map (fun i => (i.zero, i.size, i.bytes)) = some (some (.agg #[.int .i64 0, .string ⟨#[]⟩]), 2, 24) := by kernel_rfl
/-- What Trace keeps of its steps. -/
structure TraceP (w0 w : World) (b tb rb : Nat) (D : List (Nat × List ValA)) : Prop where
  t : ∃ sl, w.heap[tb]? = some (.cells #[sl] 37 (0, 0)) ∧ w.ownsRow w0.heap.size 46 2 sl D.length (stepCs D)
  r : w.heap[rb]? = some (.cells #[.pointer (some ⟨b, 0, none⟩)] 74 (0, 0))
  new : w0.heap.size ≤ tb ∧ w0.heap.size ≤ rb
theorem step_appendS {w : World} {ops : Array Oper} {o : Oper} {a : Act} {K : Act → World → Prop} {Q : Exit → Act → World → Prop} {E : Prop} (hgd : o.guard = none) (s x : Operand)
    (ho : o.op = .call { callee := .builtin .append, args := #[s, x], argTypes := #[37, 37] }) (base : Nat) (ao : Option Addr) (n c : Nat) (xs : List Value) (hs : a.eval s = .slice ao n c) (hown : w.ownsRow base 46 2 (.slice ao n c) n xs)
    (q : Nat) (k : Int) (tx : Txt) (hx : a.eval x = .slice (some ⟨q, 0, none⟩) 1 1) (hq : w.heap[q]? = some (.cells #[.int .i64 k, str tx] 46 (0, 0))) (hn : n ≤ 1000) (hbase : base ≤ w.heap.size)
    (h : ∀ g cap w', w'.ownsRow base 46 2 (.slice (some ⟨g, 0, none⟩) (n + 1) cap) (n + 1) (xs ++ [.int .i64 k, str tx]) → w.grownBy w' (Value.slice ao n c).ownBlock → K (a.put o.dst (.slice (some ⟨g, 0, none⟩) (n + 1) cap)) w') : if Region.wanted o (yielded ops a.tmps) = true then Oper.wp Tryd.prog o a w K Q else E := by
  obtain ⟨i0, hi, hz0, hz1, hz2⟩ := info_parts Tryd.info46
  refine step_append_lies w hgd s x 37 ho base 46 i0 _ 2 24 Tryd.underlying37 hi hz0 hz1 hz2 rfl (by omega) (.slice ao n c) n xs hs hown ⟨q, 0, none⟩ 1 1 [.int .i64 k, str tx] hx rfl (World.news_of_block (cs := #[.int .i64 k, str tx]) (t := 46) (fr := (0, 0)) hq) (fun u hu => ?_) (by omega) (by unfold maxLen; omega) (by omega) hbase w.heap.size rfl (fun g cap w' h1 h2 _ _ => h g cap w' h1 h2)
  simp only [List.mem_cons, List.not_mem_nil, or_false] at hu
  rcases hu with rfl | rfl <;> rfl
theorem trace_post {w0 W w5 : World} {b tb rb g cap k c : Nat} {ao : Option Addr} {sv rv : Value} {m : MS} {D : List (Nat × List ValA)} {TX : Txt} (hp : TraceP w0 W b tb rb D) (hm : MR w0 W b sv rv m) (hsl : W.heap[tb]? = some (.cells #[.slice ao D.length c] 37 (0, 0))) (hown : W.ownsRow w0.heap.size 46 2 (.slice ao D.length c) D.length (stepCs D))
    (k1 : Keeps (fun q => (Value.slice ao D.length c).ownBlock = some q) W w5) (k2 : Keeps (fun q => q = tb) w5 (w5.setCell ⟨tb, 0, none⟩ (.slice (some ⟨g, 0, none⟩) (D.length + 1) cap))) (hown5 : w5.ownsRow w0.heap.size 46 2 (.slice (some ⟨g, 0, none⟩) (D.length + 1) cap) (D.length + 1) (stepCs D ++ [.int .i64 (k : Int), str TX])) (hTX : typT m.st = TX) :
    TraceP w0 (w5.setCell ⟨tb, 0, none⟩ (.slice (some ⟨g, 0, none⟩) (D.length + 1) cap)) b tb rb (D ++ [(k, m.st)]) ∧ MR w0 (w5.setCell ⟨tb, 0, none⟩ (.slice (some ⟨g, 0, none⟩) (D.length + 1) cap)) b sv rv m := by
  have nT : ¬ (Value.slice ao D.length c).ownBlock = some tb := ownsRow_ne hown hsl (by decide)
  have nR : ¬ (Value.slice ao D.length c).ownBlock = some rb := ownsRow_ne hown hp.r (by decide)
  have hT5 := (k1.block tb (lt_of_block hsl) nT).trans hsl
  have hR5 := (k1.block rb (lt_of_block hp.r) nR).trans hp.r
  have nRT : ¬ rb = tb := fun q => by have := hp.r; rw [q, hsl] at this; simp at this
  have e1 : (D ++ [(k, m.st)]).length = D.length + 1 := by simp
  obtain ⟨curb, hBb, _⟩ := hm.run.blk
  have nB : ¬ (Value.slice ao D.length c).ownBlock = some b := ownsRow_ne hown hBb (by decide)
  have nBT : ¬ b = tb := fun q => by rw [q, hsl] at hBb; simp at hBb
  have hm5 : MR w0 w5 b sv rv m := hm.keep k1 nB (fun q e hq => by
    obtain ⟨_, cur, hc⟩ := hm.rty q e
    exact ownsRow_ne hown hc (by decide) hq) (fun q hq e => by have := (ownsRow_lt hown q e).1; omega)
  refine ⟨⟨⟨_, heap_setCell_at hT5 _, ?_⟩, (k2.block rb (lt_of_block hR5) nRT).trans hR5, hp.new⟩, hm5.keep k2 nBT (fun q e hq => ?_) (fun q hq e => by have := hp.new.1; omega)⟩
  · rw [e1, stepCs_snoc, hTX]
    exact ownsRow_kept hown5 k2 (fun q e hq => ownsRow_ne hown5 hT5 (by decide) (by rw [e, hq]))
  · obtain ⟨_, cur, hc⟩ := hm5.rty q e
    rw [hq, hT5] at hc
    simp at hc
theorem TraceP.stays {w0 W W' : World} {b tb rb : Nat} {sv rv : Value} {m : MS} {D : List (Nat × List ValA)} (hp : TraceP w0 W b tb rb D) (hm : MR w0 W b sv rv m) (hk : Keeps (Own b rv) W W') : TraceP w0 W' b tb rb D := by
  obtain ⟨curb, hBb, _⟩ := hm.run.blk
  obtain ⟨sl, hsl, hown⟩ := hp.t
  have ne : ∀ {i : Nat} {c : Array Value} {t : TypeId}, W.heap[i]? = some (.cells c t (0, 0)) → t ≠ 80 → t ≠ 67 → ¬ Own b rv i := fun hi h8 h6 q => q.elim
    (fun q => by rw [q, hBb] at hi; simp at hi; exact h8 hi.2.symm)
    (fun q => by obtain ⟨_, cur, hc⟩ := hm.rty _ q; rw [hc] at hi; simp at hi; exact h6 hi.2.symm)
  refine ⟨⟨sl, (hk.block tb (lt_of_block hsl) (ne hsl (by decide) (by decide))).trans hsl, ownsRow_kept hown hk (fun q e => ?_)⟩, (hk.block rb (lt_of_block hp.r) (ne hp.r (by decide) (by decide))).trans hp.r, hp.new⟩
  obtain ⟨_, cur, hc⟩ := ownsRow_lt hown q e
  exact ne hc (by decide) (by decide)
set_option maxRecDepth 100000 in
set_option maxHeartbeats 4000000 in
theorem trace1_v {w0 W : World} {b tb rb : Nat} {sv rv : Value} {m : MS} (D : List (Nat × List ValA)) (k : Nat) (hp : TraceP w0 W b tb rb D) (hm : MR w0 W b sv rv m) (hK : ∀ v ∈ m.st, goodV v) (hd : D.length < 96) :
    Calls Tryd.prog 25 #[.int .i64 (k : Int), .pointer (some ⟨tb, 0, none⟩), .pointer (some ⟨rb, 0, none⟩)] W fun e W' => e = .returned (.tuple #[]) ∧ TraceP w0 W' b tb rb (D ++ [(k, m.st)]) ∧ MR w0 W' b sv rv m := by
  obtain ⟨sl, hsl, hown⟩ := hp.t
  obtain ⟨ao, c, rfl⟩ := RowAt.form (rowAt_own hown)
  have y0 : W.cell? ⟨tb, 0, none⟩ = some (.slice ao D.length c) := (cell_of_blk hsl _).trans rfl
  have y2 : W.cell? ⟨rb, 0, none⟩ = some (.pointer (some ⟨b, 0, none⟩)) := (cell_of_blk hp.r _).trans rfl
  have z0 := frozen_of_blk hsl 0
  have HQ : Hid (∀ (W' : World), MR w0 W' b sv rv m → Calls Tryd.prog 26 #[.pointer (some ⟨b, 0, none⟩)] W' fun e w' => e = .returned (str (typT m.st)) ∧ Keeps (fun _ => False) W' w') := fun W' q => types26_v q (fun v hv => by rcases hK v hv with h | h | h; exact Or.inl h.1; exact Or.inr (Or.inl h.1); exact Or.inr (Or.inr h.1))
  obtain ⟨TX, HTX⟩ : ∃ TX, Hid (typT m.st = TX) := ⟨_, rfl⟩
  rw [unhide HTX] at HQ
  have HP := hide hp
  have HM := hide hm
  have HOW := hide hown
  have HSL := hide hsl
  clear hp hm hown hsl
  go_enter Tryd.func25, Tryd.ntmps25
  go_wp2_with fail
  have HD := hide (Keeps.refl (fun _ => False) W).drew
  have p0 : tb < W.heap.size := lt_of_block (unhide HSL)
  have p1 : rb < W.heap.size := lt_of_block (unhide HP).r
  obtain ⟨i0, hi, hz0, hz1, hz2⟩ := info_parts Tryd.info46
  have hdK := (unhide HD).size
  have HY0 := hide (((unhide HD).cell (o := 0) p0 id).trans y0)
  have HY2 := hide (((unhide HD).cell (o := 0) p1 id).trans y2)
  have p0' := Nat.lt_of_lt_of_le p0 hdK
  have p1' := Nat.lt_of_lt_of_le p1 hdK
  have hrt : ¬ rb = tb := fun q => by have := (unhide HP).r; rw [q, unhide HSL] at this; simp at this
  have yD := unhide HY0
  have HNE := hide (ownsRow_ne (unhide HOW) (unhide HSL) (by decide))
  have HNR := hide (ownsRow_ne (unhide HOW) (unhide HP).r (by decide))
  go_region_law (first
      | (rw [if_pos (by rfl)]; go_simp; go_at_call 26; refine ((unhide HQ) _ ((unhide HM).keepF (unhide HD))).mono ?_; rintro e w2 ⟨rfl, hk2⟩; have f0 := (hk2.cell (o := 0) p0' id).trans (unhide HY0); have f2 := (hk2.cell (o := 0) p1' id).trans (unhide HY2); have hs2 := hk2.size; have r0 := Nat.lt_of_lt_of_le p0' hs2; have r1 := Nat.lt_of_lt_of_le p1' hs2; have g0 := ((kAlloc w2 (.cells #[.int .i64 (k : Int), str TX] 46)).cell (o := 0) r0 id).trans f0; have g2 := ((kAlloc w2 (.cells #[.int .i64 (k : Int), str TX] 46)).cell (o := 0) r1 id).trans f2; have hOW2 := (ownsRow_kept (unhide HOW) ((unhide HD).trans hk2) (fun _ _ => id)).alloc (.cells #[.int .i64 (k : Int), str TX] 46); have hBS2 : w0.heap.size ≤ (w2.alloc (.cells #[.int .i64 (k : Int), str TX] 46)).heap.size := (by have := (unhide HM).kept.size; simp; omega); have hT2a := (((unhide HD).trans hk2).alloc (.cells #[.int .i64 (k : Int), str TX] 46)).block tb p0 id |>.trans (unhide HSL); have hR2a := (((unhide HD).trans hk2).alloc (.cells #[.int .i64 (k : Int), str TX] 46)).block rb p1 id |>.trans (unhide HP).r)
      | (refine step_appendS (by rfl) _ _ (by rfl) w0.heap.size ao D.length c (stepCs D) (by rfl) hOW2 w2.heap.size (k : Int) _ (by rfl) (heap_alloc_new w2 _) (by omega) hBS2 ?_; intro g cap' w5 hown5 hgrow5; have hT5 := (hgrow5.block tb (by simp; omega) (Ne.symm (unhide HNE))).trans hT2a; have u0 := frozen_of_blk hT5 0; have x0 : w5.cell? ⟨tb, 0, none⟩ = some (.slice ao D.length c) := (cell_of_blk hT5 _).trans rfl; have x2 : w5.cell? ⟨rb, 0, none⟩ = some (.pointer (some ⟨b, 0, none⟩)) := (cell_of_blk ((hgrow5.block rb (by simp; omega) (Ne.symm (unhide HNR))).trans hR2a) _).trans rfl; have x3 : (w5.setCell ⟨tb, 0, none⟩ (.slice (some ⟨g, 0, none⟩) (D.length + 1) cap')).cell? ⟨rb, 0, none⟩ = some (.pointer (some ⟨b, 0, none⟩)) := ((Keeps.setCell (F := fun q => q = tb) (p := ⟨tb, 0, none⟩) (Keeps.refl (fun q => q = tb) w5) (fun _ => rfl) (.slice (some ⟨g, 0, none⟩) (D.length + 1) cap')).cell (World.block_lt_of_cell? w5 ⟨rb, 0, none⟩ x2) hrt).trans x2))
  all_goals
    go_end0
    have k1 : Keeps (fun q => (Value.slice ao D.length c).ownBlock = some q) W w5 := (((unhide HD).trans hk2).alloc (.cells #[.int .i64 (k : Int), str TX] 46)).any.grown hgrow5 (fun q e _ => e)
    have k2 : Keeps (fun q => q = tb) w5 (w5.setCell ⟨tb, 0, none⟩ (.slice (some ⟨g, 0, none⟩) (D.length + 1) cap')) := Keeps.setCell (F := fun q => q = tb) (p := ⟨tb, 0, none⟩) (Keeps.refl (fun q => q = tb) w5) (fun _ => rfl) _
    refine ⟨rfl, trace_post (unhide HP) (unhide HM) (unhide HSL) (unhide HOW) k1 k2 hown5 (unhide HTX)⟩
end Go.Proofs.YtonodcmbbgpjjaaDoor
