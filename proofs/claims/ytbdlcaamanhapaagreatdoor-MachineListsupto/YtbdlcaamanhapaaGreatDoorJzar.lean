import Derived.Test.YtbdlcaamanhapaaGreatDoorJzaq
import Derived.Deep.RegionLaw
import Derived.Deep.AppendLies
import Derived.Test.YtbdlcaamanhapaaGreatDoorJzai
namespace Go.Proofs.YtbdlcaamanhapaaGreatDoor
open Go.RowKit Go.Maps
set_option maxRecDepth 100000
set_option maxHeartbeats 4000000
def typT (st : List ValA) : Txt := (st.map ValA.kind).map letR
def stepCs (D : List (Nat × List ValA)) : List Value := D.flatMap fun z => [.int .i64 (z.1 : Int), str (typT z.2)]
theorem stepCs_snoc (D : List (Nat × List ValA)) (z : Nat × List ValA) : stepCs (D ++ [z]) = stepCs D ++ [.int .i64 (z.1 : Int), str (typT z.2)] := by simp [stepCs]
theorem Tryz.info53 : (Tryz.prog.info? 53).map (fun i => (i.zero, i.size, i.bytes)) = some (some (.agg #[.int .i64 0, .string ⟨#[]⟩]), 2, 24) := by kernel_rfl
structure TraceP (w0 w : World) (b tb rb : Nat) (D : List (Nat × List ValA)) : Prop where
 t : ∃ sl, w.heap[tb]? = some (.cells #[sl] 45 (0, 0)) ∧ w.ownsRow w0.heap.size 53 2 sl D.length (stepCs D)
 r : w.heap[rb]? = some (.cells #[.pointer (some ⟨b, 0, none⟩)] 66 (0, 0))
 new : w0.heap.size ≤ tb ∧ w0.heap.size ≤ rb
theorem step_appendS {w : World} {ops : Array Oper} {o : Oper} {a : Act} {K : Act → World → Prop} {Q : Exit → Act → World → Prop} {E : Prop} (hgd : o.guard = none) (s x : Operand)
  (ho : o.op = .call { callee := .builtin .append, args := #[s, x], argTypes := #[45, 45] }) (base : Nat) (ao : Option Addr) (n c : Nat) (xs : List Value) (hs : a.eval s = .slice ao n c) (hown : w.ownsRow base 53 2 (.slice ao n c) n xs)
  (q : Nat) (k : Int) (tx : Txt) (hx : a.eval x = .slice (some ⟨q, 0, none⟩) 1 1) (hq : w.heap[q]? = some (.cells #[.int .i64 k, str tx] 53 (0, 0))) (hn : n ≤ 1000) (hbase : base ≤ w.heap.size)
  (h : ∀ g cap w', w'.ownsRow base 53 2 (.slice (some ⟨g, 0, none⟩) (n + 1) cap) (n + 1) (xs ++ [.int .i64 k, str tx]) → w.grownBy w' (Value.slice ao n c).ownBlock → K (a.put o.dst (.slice (some ⟨g, 0, none⟩) (n + 1) cap)) w') : if Region.wanted o (yielded ops a.tmps) = true then Oper.wp Tryz.prog o a w K Q else E := by
 obtain ⟨i0, hi, hz0, hz1, hz2⟩ := info_parts Tryz.info53
 refine step_append_lies w hgd s x 45 ho base 53 i0 _ 2 24 Tryz.underlying45 hi hz0 hz1 hz2 rfl (by omega) (.slice ao n c) n xs hs hown ⟨q, 0, none⟩ 1 1 [.int .i64 k, str tx] hx rfl (World.news_of_block (cs := #[.int .i64 k, str tx]) (t := 53) (fr := (0, 0)) hq) (fun u hu => ?_) (by omega) (by unfold maxLen; omega) (by omega) hbase w.heap.size rfl (fun g cap w' h1 h2 _ _ => h g cap w' h1 h2)
 simp only [List.mem_cons, List.not_mem_nil, or_false] at hu
 rcases hu with rfl | rfl <;> rfl
theorem trace_post {w0 W w5 : World} {b tb rb g cap k c : Nat} {ao : Option Addr} {sv rv : Value} {m : MS} {D : List (Nat × List ValA)} {TX : Txt} (hp : TraceP w0 W b tb rb D) (hm : MR w0 W b sv rv m) (hsl : W.heap[tb]? = some (.cells #[.slice ao D.length c] 45 (0, 0))) (hown : W.ownsRow w0.heap.size 53 2 (.slice ao D.length c) D.length (stepCs D))
  (k1 : Wp (fun q => (Value.slice ao D.length c).ownBlock = some q) W w5) (k2 : Wp (fun q => q = tb) w5 (w5.setCell ⟨tb, 0, none⟩ (.slice (some ⟨g, 0, none⟩) (D.length + 1) cap))) (hown5 : w5.ownsRow w0.heap.size 53 2 (.slice (some ⟨g, 0, none⟩) (D.length + 1) cap) (D.length + 1) (stepCs D ++ [.int .i64 (k : Int), str TX])) (hTX : typT m.st = TX) :
  TraceP w0 (w5.setCell ⟨tb, 0, none⟩ (.slice (some ⟨g, 0, none⟩) (D.length + 1) cap)) b tb rb (D ++ [(k, m.st)]) ∧ MR w0 (w5.setCell ⟨tb, 0, none⟩ (.slice (some ⟨g, 0, none⟩) (D.length + 1) cap)) b sv rv m := by
 have nT : ¬ (Value.slice ao D.length c).ownBlock = some tb := ownsRow_ne hown hsl (by decide)
 have nR : ¬ (Value.slice ao D.length c).ownBlock = some rb := ownsRow_ne hown hp.r (by decide)
 have hT5 := (k1.block tb (zE hsl) nT).trans hsl
 have hR5 := (k1.block rb (zE hp.r) nR).trans hp.r
 have nRT : ¬ rb = tb := fun q => by have := hp.r; rw [q, hsl] at this; simp at this
 have e1 : (D ++ [(k, m.st)]).length = D.length + 1 := by simp
 obtain ⟨curb, hBb, _⟩ := hm.run.blk
 have nB : ¬ (Value.slice ao D.length c).ownBlock = some b := ownsRow_ne hown hBb (by decide)
 have nBT : ¬ b = tb := fun q => by rw [q, hsl] at hBb; simp at hBb
 have hm5 : MR w0 w5 b sv rv m := hm.keep k1 nB (fun q e hq => by
  obtain ⟨_, cur, hc⟩ := hm.rty q e
  exact ownsRow_ne hown hc (by decide) hq) (fun q hq e => by have := (ownsRow_lt hown q e).1; omega)
 refine ⟨⟨⟨_, zH hT5 _, ?_⟩, (k2.block rb (zE hR5) nRT).trans hR5, hp.new⟩, hm5.keep k2 nBT (fun q e hq => ?_) (fun q hq e => by have := hp.new.1; omega)⟩
 ·rw [e1, stepCs_snoc, hTX]
  exact zI hown5 k2 (fun q e hq => ownsRow_ne hown5 hT5 (by decide) (by rw [e, hq]))
 ·obtain ⟨_, cur, hc⟩ := hm5.rty q e
  rw [hq, hT5] at hc
  simp at hc
theorem TraceP.stays {w0 W W' : World} {b tb rb : Nat} {sv rv : Value} {m : MS} {D : List (Nat × List ValA)} (hp : TraceP w0 W b tb rb D) (hm : MR w0 W b sv rv m) (hk : Wp (Own b rv) W W') : TraceP w0 W' b tb rb D := by
 obtain ⟨curb, hBb, _⟩ := hm.run.blk
 obtain ⟨sl, hsl, hown⟩ := hp.t
 have ne : ∀ {i : Nat} {c : Array Value} {t : TypeId}, W.heap[i]? = some (.cells c t (0, 0)) → t ≠ 72 → t ≠ 51 → ¬ Own b rv i := fun hi h8 h6 q => q.elim
  (fun q => by rw [q, hBb] at hi; simp at hi; exact h8 hi.2.symm)
  (fun q => by obtain ⟨_, cur, hc⟩ := hm.rty _ q; rw [hc] at hi; simp at hi; exact h6 hi.2.symm)
 refine ⟨⟨sl, (hk.block tb (zE hsl) (ne hsl (by decide) (by decide))).trans hsl, zI hown hk (fun q e => ?_)⟩, (hk.block rb (zE hp.r) (ne hp.r (by decide) (by decide))).trans hp.r, hp.new⟩
 obtain ⟨_, cur, hc⟩ := ownsRow_lt hown q e
 exact ne hc (by decide) (by decide)
theorem trace1_v {w0 W : World} {b tb rb : Nat} {sv rv : Value} {m : MS} (D : List (Nat × List ValA)) (k : Nat) (hp : TraceP w0 W b tb rb D) (hm : MR w0 W b sv rv m) (hK : ∀ v ∈ m.st, goodV v) (hd : D.length < 96) :
  Calls Tryz.prog 27 #[.int .i64 (k : Int), .pointer (some ⟨tb, 0, none⟩), .pointer (some ⟨rb, 0, none⟩)] W fun e W' => e = .returned (.tuple #[]) ∧ TraceP w0 W' b tb rb (D ++ [(k, m.st)]) ∧ MR w0 W' b sv rv m := by
 obtain ⟨sl, hsl, hown⟩ := hp.t
 obtain ⟨ao, c, rfl⟩ := Ws.form (zG hown)
 have y0 : W.cell? ⟨tb, 0, none⟩ = some (.slice ao D.length c) := (zC hsl _).trans rfl
 have y2 : W.cell? ⟨rb, 0, none⟩ = some (.pointer (some ⟨b, 0, none⟩)) := (zC hp.r _).trans rfl
 have z0 := zF hsl 0
 have HQ : Hid (∀ (W' : World), MR w0 W' b sv rv m → Calls Tryz.prog 28 #[.pointer (some ⟨b, 0, none⟩)] W' fun e w' => e = .returned (str (typT m.st)) ∧ Wp (fun _ => False) W' w') := fun W' q => types26_v q (fun v hv => by rcases hK v hv with h | h | h; exact Or.inl h.1; exact Or.inr (Or.inl h.1); exact Or.inr (Or.inr h.1))
 obtain ⟨TX, HTX⟩ : ∃ TX, Hid (typT m.st = TX) := ⟨_, rfl⟩
 rw [zA HTX] at HQ
 have HP := zB hp
 have HM := zB hm
 have HOW := zB hown
 have HSL := zB hsl
 clear hp hm hown hsl
 go_enter Tryz.func27, Tryz.ntmps27
 go_wp2_with fail
 have HD := zB (Wp.refl (fun _ => False) W).drew
 have p0 : tb < W.heap.size := zE (zA HSL)
 have p1 : rb < W.heap.size := zE (zA HP).r
 obtain ⟨i0, hi, hz0, hz1, hz2⟩ := info_parts Tryz.info53
 have hdK := (zA HD).size
 have HY0 := zB (((zA HD).cell (o := 0) p0 id).trans y0)
 have HY2 := zB (((zA HD).cell (o := 0) p1 id).trans y2)
 have p0' := Nat.lt_of_lt_of_le p0 hdK
 have p1' := Nat.lt_of_lt_of_le p1 hdK
 have hrt : ¬ rb = tb := fun q => by have := (zA HP).r; rw [q, zA HSL] at this; simp at this
 have yD := zA HY0
 have HNE := zB (ownsRow_ne (zA HOW) (zA HSL) (by decide))
 have HNR := zB (ownsRow_ne (zA HOW) (zA HP).r (by decide))
 go_region_law (first
   | (rw [if_pos (by rfl)]; go_simp; go_at_call 28; refine ((zA HQ) _ ((zA HM).keepF (zA HD))).mono ?_; rintro e w2 ⟨rfl, hk2⟩; have f0 := (hk2.cell (o := 0) p0' id).trans (zA HY0); have f2 := (hk2.cell (o := 0) p1' id).trans (zA HY2); have hs2 := hk2.size; have r0 := Nat.lt_of_lt_of_le p0' hs2; have r1 := Nat.lt_of_lt_of_le p1' hs2; have g0 := ((kA w2 (.cells #[.int .i64 (k : Int), str TX] 53)).cell (o := 0) r0 id).trans f0; have g2 := ((kA w2 (.cells #[.int .i64 (k : Int), str TX] 53)).cell (o := 0) r1 id).trans f2; have hOW2 := (zI (zA HOW) ((zA HD).trans hk2) (fun _ _ => id)).alloc (.cells #[.int .i64 (k : Int), str TX] 53); have hBS2 : w0.heap.size ≤ (w2.alloc (.cells #[.int .i64 (k : Int), str TX] 53)).heap.size := (by have := (zA HM).kept.size; simp; omega); have hT2a := (((zA HD).trans hk2).alloc (.cells #[.int .i64 (k : Int), str TX] 53)).block tb p0 id |>.trans (zA HSL); have hR2a := (((zA HD).trans hk2).alloc (.cells #[.int .i64 (k : Int), str TX] 53)).block rb p1 id |>.trans (zA HP).r)
   | (refine step_appendS (by rfl) _ _ (by rfl) w0.heap.size ao D.length c (stepCs D) (by rfl) hOW2 w2.heap.size (k : Int) _ (by rfl) (heap_alloc_new w2 _) (by omega) hBS2 ?_; intro g cap' w5 hown5 hgrow5; have hT5 := (hgrow5.block tb (by simp; omega) (Ne.symm (zA HNE))).trans hT2a; have u0 := zF hT5 0; have x0 : w5.cell? ⟨tb, 0, none⟩ = some (.slice ao D.length c) := (zC hT5 _).trans rfl; have x2 : w5.cell? ⟨rb, 0, none⟩ = some (.pointer (some ⟨b, 0, none⟩)) := (zC ((hgrow5.block rb (by simp; omega) (Ne.symm (zA HNR))).trans hR2a) _).trans rfl; have x3 : (w5.setCell ⟨tb, 0, none⟩ (.slice (some ⟨g, 0, none⟩) (D.length + 1) cap')).cell? ⟨rb, 0, none⟩ = some (.pointer (some ⟨b, 0, none⟩)) := ((Wp.setCell (F := fun q => q = tb) (p := ⟨tb, 0, none⟩) (Wp.refl (fun q => q = tb) w5) (fun _ => rfl) (.slice (some ⟨g, 0, none⟩) (D.length + 1) cap')).cell (World.block_lt_of_cell? w5 ⟨rb, 0, none⟩ x2) hrt).trans x2))
 all_goals
  go_end0
  have k1 : Wp (fun q => (Value.slice ao D.length c).ownBlock = some q) W w5 := (((zA HD).trans hk2).alloc (.cells #[.int .i64 (k : Int), str TX] 53)).any.grown hgrow5 (fun q e _ => e)
  have k2 : Wp (fun q => q = tb) w5 (w5.setCell ⟨tb, 0, none⟩ (.slice (some ⟨g, 0, none⟩) (D.length + 1) cap')) := Wp.setCell (F := fun q => q = tb) (p := ⟨tb, 0, none⟩) (Wp.refl (fun q => q = tb) w5) (fun _ => rfl) _
  refine ⟨rfl, trace_post (zA HP) (zA HM) (zA HSL) (zA HOW) k1 k2 hown5 (zA HTX)⟩
def Traced (w : World) (V R : Int) (T : List (Nat × List ValA) × MS) (e : Ending) (w' : World) : Prop :=
 ((V ≠ 0 ∨ R ≠ 0) ∧ e = .returned (.tuple #[.slice none 0 0, .int .i64 (if V ≠ 0 then V else R)]) ∧ Wp (fun _ => False) w w') ∨
 (V = 0 ∧ R = 0 ∧ ∃ sl, e = .returned (.tuple #[sl, .int .i64 0]) ∧ w'.ownsRow w.heap.size 53 2 sl T.1.length (stepCs T.1) ∧ Wp (fun _ => False) w w')
theorem machTrace_v (S : List Wq) (sv u v : Value) (l : List ValA) (hh : Bool) (vals : List ValA) (w : World) (hE : Env w) (hS : Wt w sv S) (hl : Wr w v l) (hI : InR l) (hr : Wr w u vals) :
  Calls Tryz.prog 10 #[.agg #[sv], v, .agg #[.bool hh, u]] w fun e w' => Traced w (verifyA S l).2.2 (rowE S hh vals) (playM S l l.length 0 ⟨[], hh, vals⟩) e w' := by
 obtain ⟨so, sc, rfl⟩ := Ws.form hS
 obtain ⟨uo, uc, rfl⟩ := Ws.form hr
 obtain ⟨vo, vc, rfl⟩ := Ws.form hl
 have HB := zB (fun (W : World) (hk : Wp (fun _ => False) w W) => begin_v S (.slice so S.length sc) (.slice uo vals.length uc) (.slice vo l.length vc) l hh vals W (hE.keepF hk) (hS.keepF hk) (hl.keepF hk) hI (hr.keepF hk))
 have HKA := zB ((kA w (.cells #[.slice so S.length sc] 24)).alloc (.cells #[.bool hh, .slice uo vals.length uc] 27))
 have HEE := zB hE
 have HSS := zB hS
 have HLL := zB hl
 have HLT := zB (look_tells S l)
 have HVA : Hid ((verifyA S l).2.2 = (lookA S l).2.2) := rfl
 generalize hV : (verifyA S l).2.2 = V at *
 generalize hR : rowE S hh vals = R at *
 obtain ⟨T, HTT⟩ : ∃ T, Hid (playM S l l.length 0 ⟨[], hh, vals⟩ = T) := ⟨_, rfl⟩
 rw [zA HTT]
 clear hE hS hl hr
 go_enter Tryz.func10, Tryz.ntmps10
 go_wp2_with fail
 refine ((zA HB) _ (zA HKA)).mono ?_
 rintro e w1 hbg
 generalize (w.alloc (.cells #[.slice so S.length sc] 24)).alloc (.cells #[.bool hh, .slice uo vals.length uc] 27) = W0 at *
 rcases hbg with ⟨hV0, rfl, hk1⟩ | ⟨hV0, hR0, rfl, hk1⟩ | ⟨hV0, hR0, b, rv, rfl, hm1⟩
 ·have HK := zB ((zA HKA).trans (hk1.alloc (.cells #[.pointer none] 66)))
  clear hk1
  go_wp2_with fail
  go_ret2
  exact Or.inl ⟨Or.inl hV0, by rw [if_pos hV0]; rfl, zA HK⟩
 ·have HK := zB ((zA HKA).trans (hk1.alloc (.cells #[.pointer none] 66)))
  clear hk1
  go_wp2_with fail
  go_ret2
  exact Or.inl ⟨Or.inr hR0, by rw [if_neg (by rw [hV0]; decide)]; rfl, zA HK⟩
 ·have HM1 := zB hm1
  have hkr := kA w1 (.cells #[.pointer (some ⟨b, 0, none⟩)] 66)
  have hko := kA (w1.alloc (.cells #[.pointer (some ⟨b, 0, none⟩)] 66)) (.cells #[.slice none 0 0] 45)
  have hR1 := heap_alloc_new w1 (.cells #[.pointer (some ⟨b, 0, none⟩)] 66)
  have hO1 := heap_alloc_new (w1.alloc (.cells #[.pointer (some ⟨b, 0, none⟩)] 66)) (.cells #[.slice none 0 0] 45)
  rw [show (w1.alloc (.cells #[.pointer (some ⟨b, 0, none⟩)] 66)).heap.size = w1.heap.size + 1 by simp] at hO1
  have hR2 := (hko.block _ (zE hR1) id).trans hR1
  have hm2 := hm1.keepF (hkr.trans hko)
  have hP0 : TraceP W0 ((w1.alloc (.cells #[.pointer (some ⟨b, 0, none⟩)] 66)).alloc (.cells #[.slice none 0 0] 45)) b (w1.heap.size + 1) w1.heap.size [] := ⟨⟨_, hO1, World.ownsRow_nil _ W0.heap.size 53 2⟩, hR2, ⟨Nat.le_trans hm1.kept.size (by omega), hm1.kept.size⟩⟩
  obtain ⟨ps, hlk, _, hH, _, hL96, hSK, hF, hJ⟩ := (zA HLT).resolve_left (fun ⟨k', e', hle, hne⟩ => hne (by have := zA HVA; rw [hle] at this; simp only at this; omega))
  have hz : errS S = 0 := look_parts' hlk
  have hTy : TyM S ⟨[], hh, vals⟩ [] := ⟨rfl, fun v hv => by simp at hv, rowE_ok (by rw [hR]; exact hR0)⟩
  have HQ := zB (play25_v S l (.slice vo l.length vc) _ (.pointer (some ⟨w1.heap.size + 1, 0, none⟩)) (.pointer (some ⟨w1.heap.size, 0, none⟩)) (fun D W => TraceP W0 W b (w1.heap.size + 1) w1.heap.size D) (fun D k m rv W hk hdk hg hp hm => trace1_v D k hp hm hg (by omega)) (fun D W W' rv m hm hp hk => hp.stays hm hk) hm2 hP0 ((zA HEE).keepF (zA HKA)).types ((zA HSS).keepF (zA HKA)) hz ((zA HLL).keepF (zA HKA)) hL96 hF hJ hH hTy)
  subst hV0
  subst hR0
  rw [zA HTT] at HQ
  clear hR1 hO1 hR2 hm1 hm2 hP0 hF hJ hH hSK hlk hz hTy hkr hko HLT
  go_wp2_with fail
  refine (zA HQ).mono ?_
  rintro e w2 ⟨rfl, hp2, ⟨rv2, hm2⟩, _⟩
  obtain ⟨sl, hsl, hown⟩ := hp2.t
  have y0 : w2.cell? ⟨w1.heap.size + 1, 0, none⟩ = some sl := (zC hsl _).trans rfl
  obtain ⟨xo, xc, rfl⟩ := Ws.form (zG hown)
  have HO := zB (ownsRow_base hown (zA HKA).size)
  have HK := zB ((zA HKA).trans hm2.kept)
  clear HQ hp2 hm2 hsl hown
  go_wp2_with fail
  go_ret2
  exact Or.inr ⟨rfl, rfl, _, rfl, zA HO, zA HK⟩
theorem take_int (w : World) (b off cap : Nat) (c : UInt8) (r : Txt) (m : Nat) (hm : num c = m) (hO : Ops w) (hT : Types w) (h : Wv w (.slice (some ⟨b, off, none⟩) (c :: r).length cap) (c :: r)) (ht : (c :: r).length ≤ 4096) (hO0 : Ops w) (ho : opdB (m : Int) ≠ -1) (hx : (opA (m : Int)).opd = 1) :
  Calls Tryz.prog 68 #[.slice (some ⟨b, off, none⟩) (c :: r).length cap] w fun e w' => Wp (fun _ => False) w w' ∧ ∃ x y ok, e = .returned (.tuple #[ValA.v x, y, .bool ok]) ∧ TookC w' x y ok b ((intP r).bind fun p => if rightB ⟨m, p.1, []⟩ then some (⟨m, p.1, []⟩, p.2) else none) := by
 obtain ⟨b', off', cc, e1, hblt, hc⟩ := Ws.cells h (by simp)
 simp only [Value.slice.injEq, Option.some.injEq, Addr.mk.injEq] at e1
 obtain ⟨⟨rfl, rfl, _⟩, _, rfl⟩ := e1
 have c0 := (((Wp.refl (fun _ => False) w).alloc (.cells #[.int .i64 0, .int .i64 0, .string ⟨#[]⟩] 60)).cell hblt id).trans (hc 0 (.int .u8 (num c)) rfl)
 rw [Nat.add_zero, hm] at c0
 have hcr := num_range c
 have hroom := Ws.room h _ _ _ rfl
 have HRB := zB (rest_bytes h (k := 1) (by simp))
 have hlen : ((c :: r).length : Int) = (r.length : Int) + 1 := by simp
 have i1 : (1 : Int) ≤ (cap : Int) := by simp at hroom; omega
 have m255 : (m : Int) ≤ 255 := by omega
 have m0 : (0 : Int) ≤ (m : Int) := by omega
 generalize hL : (c :: r).length = L at *
 have HLL := zB hL
 have i2 : (L : Int) ≤ (cap : Int) := by omega
 have i3 : (1 : Int) ≤ (L : Int) := by omega
 have HRL : Hid (L - 1 = r.length) := by show _ = _; omega
 clear h hc hlen hroom hL
 obtain ⟨HX, hxb, hxc⟩ := boxed w #[.int .i64 (m : Int), .int .i64 0, .string ⟨#[]⟩] 60
 have HO := zB (hO.keepF (zA HX))
 have HT := zB (hT.keepF (zA HX))
 have HQ := zB (isOperation_v (m : Int) (w.alloc (.cells #[.int .i64 (m : Int), .int .i64 0, .string ⟨#[]⟩] 60)))
 have f0 := hxc 0 (.int .i64 (m : Int)) rfl
 have f1 := hxc 1 (.int .i64 0) rfl
 have f2 := hxc 2 (.string ⟨#[]⟩) rfl
 have hHB := heap_alloc_new w (.cells #[.int .i64 (m : Int), .int .i64 0, .string ⟨#[]⟩] 60)
 have HHB := zB hHB
 clear hxc hO hT hHB
 have HO0 : Hid (Ops w) := hO0
 have HY0 : Hid (Wp (fun _ => False) w w) := Wp.refl _ _
 have g1 := ((zA HO).at (m := m) (by have := opdB_range ho; omega)).1
 have m27 : (m : Int) < 27 := by have := opdB_range ho; omega
 rw [decide_eq_true ho] at HQ
 have HR : Hid (∀ (n : Int) (s : Txt) (w4 : World), Ops w4 → Calls Tryz.prog 106 #[.agg #[.int .i64 (m : Int), .int .i64 n, str s]] w4 _) := fun n s w4 h4 => rightOperand_v ⟨m, n, s⟩ w4 h4 ho
 rw [hx] at g1
 clear ho hx
 go_enter Tryz.func68, Tryz.ntmps68
 go_wp2_with fail
 refine (zA HQ).mono ?_
 rintro e w2 ⟨rfl, rfl⟩
 generalize w.alloc (.cells #[.int .i64 (m : Int), .int .i64 0, .string ⟨#[]⟩] 60) = w2 at f0 f1 f2 g1 HO HT HX HHB hxb ⊢
 obtain ⟨b2, off2, cap2, hsl, HRX⟩ : ∃ b2 off2 cap2, ((cap = 1 → b2 = b ∧ off2 = off ∧ cap2 = 0) ∧ (cap ≠ 1 → b2 = b ∧ off2 = off + 1 ∧ cap2 = cap - 1)) ∧ Hid (Wv w2 (.slice (some ⟨b2, off2, none⟩) r.length cap2) r) := by
  have h := (zA HRB).keepF (zA HX)
  rw [zA HRL] at h
  by_cases hcap : cap = 1
  ·rw [if_pos hcap] at h
   exact ⟨b, off, 0, ⟨fun _ => ⟨rfl, rfl, rfl⟩, fun hn => absurd hcap hn⟩, (by simpa [hcap] using h : Wv w2 _ r)⟩
  ·rw [if_neg hcap] at h
   exact ⟨b, off + 1, cap - 1, ⟨fun hn => absurd hn hcap, fun _ => ⟨rfl, rfl, rfl⟩⟩, h⟩
 have HCC := zB (codeInt_v w2 b2 off2 cap2 r (zA HT) (zA HRX) (by have := zA HLL; simp at this; omega))
 rw [← zA HRL] at HCC
 by_cases hcap : cap = 1
 case' pos =>
  obtain ⟨rfl, rfl, rfl⟩ := hsl.1 hcap
  subst hcap
 case' neg =>
  obtain ⟨rfl, rfl, rfl⟩ := hsl.2 hcap
 all_goals
  clear hsl
  go_wp2_with fail
  refine (zA HCC).mono ?_
  rintro e w3 ⟨hk3, n3, y3, ok, rfl, hTK⟩
  have hB3 := (hk3.block w.heap.size hxb id).trans (zA HHB)
  have z1 := zF hB3 1
  have p1 := (hk3.cell (o := 1) hxb id).trans f1
  have hB5 := zH (o := 1) hB3 (.int .i64 n3)
  have HHB5 : Hid ((w3.setCell ⟨w.heap.size, 1, none⟩ (.int .i64 n3)).heap[w.heap.size]? = some (.cells #[.int .i64 (m : Int), .int .i64 n3, .string ⟨#[]⟩] 60 (0, 0))) := hB5
  have HX5 := zB (((zA HX).trans hk3).fresh (Nat.le_refl _) (keeps_set1 w3 w.heap.size 1 (.int .i64 n3)))
  have HS5 := zB (keeps_set1 w3 w.heap.size 1 (.int .i64 n3))
  have hxb5 : w.heap.size < (w3.setCell ⟨w.heap.size, 1, none⟩ (.int .i64 n3)).heap.size := by have := hk3.size; simp; omega
  have HO5 := zB (((zA HO).keepF hk3).keep (zA HS5) (by have := (zA HO0).lt; show ¬ 1 = w.heap.size; omega))
  have HTK5 := zB hTK
  have HB3 := zB hB3
  clear hB3 hB5 HCC hTK g1 f0 f1 f2
  go_wp2_with fail
  generalize (w3.setCell ⟨w.heap.size, 1, none⟩ (.int .i64 n3)) = w5 at HHB5 HX5 HO5 HS5 hxb5 ⊢
  have f50 := (zC (zA HHB5) 0).trans (show (#[.int .i64 (m : Int), .int .i64 n3, .string ⟨#[]⟩] : Array Value)[0]? = some (.int .i64 (m : Int)) from rfl)
  have f51 := (zC (zA HHB5) 1).trans (show (#[.int .i64 (m : Int), .int .i64 n3, .string ⟨#[]⟩] : Array Value)[1]? = some (.int .i64 n3) from rfl)
  have f52 := (zC (zA HHB5) 2).trans (show (#[.int .i64 (m : Int), .int .i64 n3, .string ⟨#[]⟩] : Array Value)[2]? = some (.string ⟨#[]⟩) from rfl)
  clear z1 p1
  cases hp : intP r with
  | none =>
   have hok : ok = false := by have h := zA HTK5; rw [hp] at h; exact h
   subst hok
   have z0 := zF (zA HHB5) 0
   have z1 := zF (zA HHB5) 1
   have z2 := zF (zA HHB5) 2
   obtain ⟨s50, s51, s52⟩ := set3 (zA HHB5) (.int .i64 (m : Int)) (.int .i64 n3) (.string ⟨#[]⟩)
   go_region
   have HK7 := zB ((zA HX5).fresh (Nat.le_refl _) (zK w5 w.heap.size (.int .i64 (m : Int)) (.int .i64 n3) (.string ⟨#[]⟩)))
   generalize (((w5.setCell ⟨w.heap.size, 0, none⟩ (.int .i64 (m : Int))).setCell ⟨w.heap.size, 1, none⟩ (.int .i64 n3)).setCell ⟨w.heap.size, 2, none⟩ (.string ⟨#[]⟩)) = w7 at s50 s51 s52 HK7 ⊢
   have e50 : w7.drew.cell? ⟨w.heap.size, 0, none⟩ = some (.int .i64 (m : Int)) := s50
   have e51 : w7.drew.cell? ⟨w.heap.size, 1, none⟩ = some (.int .i64 n3) := s51
   have e52 : w7.drew.cell? ⟨w.heap.size, 2, none⟩ = some (.string ⟨#[]⟩) := s52
   have HK8 := zB ((zA HK7).drew)
   generalize w7.drew = w8 at e50 e51 e52 HK8 ⊢
   clear z0 z1 z2 f50 f51 f52 s50 s51 s52
   go_wp2_with fail
   refine bodyPost_ret (v := .tuple #[ValA.v ⟨m, n3, []⟩, _, .bool false]) (by simp [results, go_sem, ValA.v, e50, e51, e52]; rfl) rfl ?_
   exact ⟨zA HK8, _, _, _, rfl, by rw [hp]; rfl⟩
  | some p =>
   obtain ⟨n4, r3⟩ := p
   obtain ⟨hok, hn4, hby, hob⟩ : ok = true ∧ n3 = n4 ∧ Wv w3 y3 r3 ∧ y3.ownBlock = some _ := by have h := zA HTK5; rw [hp] at h; exact h
   subst hok hn4
   have HBY := zB (bytes_apart hby (zA HB3) (fun k c e => by have h := List.mem_of_getElem? (by simpa using e); simp at h) (zA HS5))
   have HP := zB hp
   have HOB := zB hob
   obtain ⟨R, HRR⟩ : ∃ R, Hid (rightB ⟨m, n3, []⟩ = R) := ⟨_, rfl⟩
   have HRW : Hid (∀ w4, Ops w4 → Calls Tryz.prog 106 #[.agg #[.int .i64 (m : Int), .int .i64 n3, .string ⟨#[]⟩]] w4 fun e w' => e = .returned (.bool R) ∧ Wp (fun _ => False) w4 w') := fun w4 h4 => by have h := (zA HR) n3 [] w4 h4; rw [zA HRR] at h; exact h
   clear hby hp hob
   go_region_held3 (fun w' => w'.cell? ⟨w.heap.size, 0, none⟩ = some (.int .i64 (m : Int)) ∧ w'.cell? ⟨w.heap.size, 1, none⟩ = some (.int .i64 n3) ∧ w'.cell? ⟨w.heap.size, 2, none⟩ = some (.string ⟨#[]⟩))
    (first | with_reducible exact s50 | with_reducible exact s51 | with_reducible exact s52 | (go_keep; done) | assumption)
    (first
      | (go_at_call 106; refine ((zA HRW) _ ((zA HO5).keepF (Wp.refl _ w5).drew)).mono ?_; rintro e w6 ⟨rfl, hk6⟩; have q0 := (hk6.cell (o := 0) hxb5 id).trans f50; have q1 := (hk6.cell (o := 1) hxb5 id).trans f51; have q2 := (hk6.cell (o := 2) hxb5 id).trans f52; have hB6 := (hk6.block w.heap.size hxb5 id).trans (zA HHB5); have z0 := zF hB6 0; have z1 := zF hB6 1; have z2 := zF hB6 2; obtain ⟨s50, s51, s52⟩ := set3 hB6 (.int .i64 (m : Int)) (.int .i64 n3) (.string ⟨#[]⟩); have HB6 := zB hB6; clear hB6))
   have HK7 := zB (((zA HX5).drew.trans hk6).fresh (Nat.le_refl _) (zK w6 w.heap.size (.int .i64 (m : Int)) (.int .i64 n3) (.string ⟨#[]⟩)))
   have HB5 := zB ((zA HBY).keepF ((Wp.refl _ w5).drew.trans hk6))
   have HF7 := zB (zK w6 w.heap.size (.int .i64 (m : Int)) (.int .i64 n3) (.string ⟨#[]⟩))
   generalize (((w6.setCell ⟨w.heap.size, 0, none⟩ (.int .i64 (m : Int))).setCell ⟨w.heap.size, 1, none⟩ (.int .i64 n3)).setCell ⟨w.heap.size, 2, none⟩ (.string ⟨#[]⟩)) = w7 at s50 s51 s52 HK7 HF7 ⊢
   have HB7 := zB (bytes_apart (zA HB5) (zA HB6) (fun k c e => by have h := List.mem_of_getElem? (by simpa using e); simp at h) (zA HF7))
   clear hk6 q0 q1 q2 z0 z1 z2 f50 f51 f52
   go_wp2_with fail
   refine bodyPost_ret (v := .tuple #[ValA.v ⟨m, n3, []⟩, _, .bool R]) (by simp [results, go_sem, ValA.v, s50, s51, s52]; rfl) rfl ?_
   refine ⟨zA HK7, _, _, _, rfl, ?_⟩
   rw [zA HP]
   simp only [Option.bind_some]
   rw [zA HRR]
   cases R with
   | false => rfl
   | true => exact ⟨rfl, rfl, zA HB7, zA HOB⟩
theorem take_text (w : World) (b off cap : Nat) (c : UInt8) (r : Txt) (m : Nat) (hm : num c = m) (hO : Ops w) (hT : Types w) (h : Wv w (.slice (some ⟨b, off, none⟩) (c :: r).length cap) (c :: r)) (ht : (c :: r).length ≤ 4096) (hO0 : Ops w) (ho : opdB (m : Int) ≠ -1) (hx : (opA (m : Int)).opd = 2) :
  Calls Tryz.prog 68 #[.slice (some ⟨b, off, none⟩) (c :: r).length cap] w fun e w' => Wp (fun _ => False) w w' ∧ ∃ x y ok, e = .returned (.tuple #[ValA.v x, y, .bool ok]) ∧ TookC w' x y ok b ((textP r).bind fun p => if rightB ⟨m, 0, p.1⟩ then some (⟨m, 0, p.1⟩, p.2) else none) := by
 obtain ⟨b', off', cc, e1, hblt, hc⟩ := Ws.cells h (by simp)
 simp only [Value.slice.injEq, Option.some.injEq, Addr.mk.injEq] at e1
 obtain ⟨⟨rfl, rfl, _⟩, _, rfl⟩ := e1
 have c0 := (((Wp.refl (fun _ => False) w).alloc (.cells #[.int .i64 0, .int .i64 0, .string ⟨#[]⟩] 60)).cell hblt id).trans (hc 0 (.int .u8 (num c)) rfl)
 rw [Nat.add_zero, hm] at c0
 have hcr := num_range c
 have hroom := Ws.room h _ _ _ rfl
 have HRB := zB (rest_bytes h (k := 1) (by simp))
 have hlen : ((c :: r).length : Int) = (r.length : Int) + 1 := by simp
 have i1 : (1 : Int) ≤ (cap : Int) := by simp at hroom; omega
 have m255 : (m : Int) ≤ 255 := by omega
 have m0 : (0 : Int) ≤ (m : Int) := by omega
 generalize hL : (c :: r).length = L at *
 have HLL := zB hL
 have i2 : (L : Int) ≤ (cap : Int) := by omega
 have i3 : (1 : Int) ≤ (L : Int) := by omega
 have HRL : Hid (L - 1 = r.length) := by show _ = _; omega
 clear h hc hlen hroom hL
 obtain ⟨HX, hxb, hxc⟩ := boxed w #[.int .i64 (m : Int), .int .i64 0, .string ⟨#[]⟩] 60
 have HO := zB (hO.keepF (zA HX))
 have HT := zB (hT.keepF (zA HX))
 have HQ := zB (isOperation_v (m : Int) (w.alloc (.cells #[.int .i64 (m : Int), .int .i64 0, .string ⟨#[]⟩] 60)))
 have f0 := hxc 0 (.int .i64 (m : Int)) rfl
 have f1 := hxc 1 (.int .i64 0) rfl
 have f2 := hxc 2 (.string ⟨#[]⟩) rfl
 have hHB := heap_alloc_new w (.cells #[.int .i64 (m : Int), .int .i64 0, .string ⟨#[]⟩] 60)
 have HHB := zB hHB
 clear hxc hO hT hHB
 have HO0 : Hid (Ops w) := hO0
 have HY0 : Hid (Wp (fun _ => False) w w) := Wp.refl _ _
 have g1 := ((zA HO).at (m := m) (by have := opdB_range ho; omega)).1
 have m27 : (m : Int) < 27 := by have := opdB_range ho; omega
 rw [decide_eq_true ho] at HQ
 have HR : Hid (∀ (n : Int) (s : Txt) (w4 : World), Ops w4 → Calls Tryz.prog 106 #[.agg #[.int .i64 (m : Int), .int .i64 n, str s]] w4 _) := fun n s w4 h4 => rightOperand_v ⟨m, n, s⟩ w4 h4 ho
 rw [hx] at g1
 clear ho hx
 go_enter Tryz.func68, Tryz.ntmps68
 go_wp2_with fail
 refine (zA HQ).mono ?_
 rintro e w2 ⟨rfl, rfl⟩
 generalize w.alloc (.cells #[.int .i64 (m : Int), .int .i64 0, .string ⟨#[]⟩] 60) = w2 at f0 f1 f2 g1 HO HT HX HHB hxb ⊢
 obtain ⟨b2, off2, cap2, hsl, HRX⟩ : ∃ b2 off2 cap2, ((cap = 1 → b2 = b ∧ off2 = off ∧ cap2 = 0) ∧ (cap ≠ 1 → b2 = b ∧ off2 = off + 1 ∧ cap2 = cap - 1)) ∧ Hid (Wv w2 (.slice (some ⟨b2, off2, none⟩) r.length cap2) r) := by
  have h := (zA HRB).keepF (zA HX)
  rw [zA HRL] at h
  by_cases hcap : cap = 1
  ·rw [if_pos hcap] at h
   exact ⟨b, off, 0, ⟨fun _ => ⟨rfl, rfl, rfl⟩, fun hn => absurd hcap hn⟩, (by simpa [hcap] using h : Wv w2 _ r)⟩
  ·rw [if_neg hcap] at h
   exact ⟨b, off + 1, cap - 1, ⟨fun hn => absurd hn hcap, fun _ => ⟨rfl, rfl, rfl⟩⟩, h⟩
 have HCC := zB (takeText_v w2 (.slice (some ⟨b2, off2, none⟩) r.length cap2) r (zA HRX) (by have := zA HLL; simp at this; omega))
 rw [← zA HRL] at HCC
 by_cases hcap : cap = 1
 case' pos =>
  obtain ⟨rfl, rfl, rfl⟩ := hsl.1 hcap
  subst hcap
 case' neg =>
  obtain ⟨rfl, rfl, rfl⟩ := hsl.2 hcap
 all_goals
  clear hsl
  go_wp2_with fail
  refine (zA HCC).mono ?_
  rintro e w3 ⟨hk3, n3, y3, ok, rfl, hTK⟩
  have hB3 := (hk3.block w.heap.size hxb id).trans (zA HHB)
  have z1 := zF hB3 2
  have p1 := (hk3.cell (o := 2) hxb id).trans f2
  have hB5 := zH (o := 2) hB3 (str n3)
  have HHB5 : Hid ((w3.setCell ⟨w.heap.size, 2, none⟩ (str n3)).heap[w.heap.size]? = some (.cells #[.int .i64 (m : Int), .int .i64 0, str n3] 60 (0, 0))) := hB5
  have HX5 := zB (((zA HX).trans hk3).fresh (Nat.le_refl _) (keeps_set1 w3 w.heap.size 2 (str n3)))
  have HS5 := zB (keeps_set1 w3 w.heap.size 2 (str n3))
  have hxb5 : w.heap.size < (w3.setCell ⟨w.heap.size, 2, none⟩ (str n3)).heap.size := by have := hk3.size; simp; omega
  have HO5 := zB (((zA HO).keepF hk3).keep (zA HS5) (by have := (zA HO0).lt; show ¬ 1 = w.heap.size; omega))
  have HTK5 := zB hTK
  have HB3 := zB hB3
  clear hB3 hB5 HCC hTK g1 f0 f1 f2
  go_wp2_with fail
  generalize (w3.setCell ⟨w.heap.size, 2, none⟩ (str n3)) = w5 at HHB5 HX5 HO5 HS5 hxb5 ⊢
  have f50 := (zC (zA HHB5) 0).trans (show (#[.int .i64 (m : Int), .int .i64 0, str n3] : Array Value)[0]? = some (.int .i64 (m : Int)) from rfl)
  have f51 := (zC (zA HHB5) 1).trans (show (#[.int .i64 (m : Int), .int .i64 0, str n3] : Array Value)[1]? = some (.int .i64 0) from rfl)
  have f52 := (zC (zA HHB5) 2).trans (show (#[.int .i64 (m : Int), .int .i64 0, str n3] : Array Value)[2]? = some (str n3) from rfl)
  clear z1 p1
  cases hp : textP r with
  | none =>
   have hok : ok = false := by have h := zA HTK5; rw [hp] at h; exact h
   subst hok
   have z0 := zF (zA HHB5) 0
   have z1 := zF (zA HHB5) 1
   have z2 := zF (zA HHB5) 2
   obtain ⟨s50, s51, s52⟩ := set3 (zA HHB5) (.int .i64 (m : Int)) (.int .i64 0) (str n3)
   go_region
   have HK7 := zB ((zA HX5).fresh (Nat.le_refl _) (zK w5 w.heap.size (.int .i64 (m : Int)) (.int .i64 0) (str n3)))
   generalize (((w5.setCell ⟨w.heap.size, 0, none⟩ (.int .i64 (m : Int))).setCell ⟨w.heap.size, 1, none⟩ (.int .i64 0)).setCell ⟨w.heap.size, 2, none⟩ (str n3)) = w7 at s50 s51 s52 HK7 ⊢
   have e50 : w7.drew.cell? ⟨w.heap.size, 0, none⟩ = some (.int .i64 (m : Int)) := s50
   have e51 : w7.drew.cell? ⟨w.heap.size, 1, none⟩ = some (.int .i64 0) := s51
   have e52 : w7.drew.cell? ⟨w.heap.size, 2, none⟩ = some (str n3) := s52
   have HK8 := zB ((zA HK7).drew)
   generalize w7.drew = w8 at e50 e51 e52 HK8 ⊢
   clear z0 z1 z2 f50 f51 f52 s50 s51 s52
   go_wp2_with fail
   refine bodyPost_ret (v := .tuple #[ValA.v ⟨m, 0, n3⟩, _, .bool false]) (by simp [results, go_sem, ValA.v, e50, e51, e52]; rfl) rfl ?_
   exact ⟨zA HK8, _, _, _, rfl, by rw [hp]; rfl⟩
  | some p =>
   obtain ⟨n4, r3⟩ := p
   obtain ⟨hok, hn4, hby, hob⟩ : ok = true ∧ n3 = n4 ∧ Wv w3 y3 r3 ∧ y3.ownBlock = some _ := by have h := zA HTK5; rw [hp] at h; exact h
   subst hok hn4
   have HBY := zB (bytes_apart hby (zA HB3) (fun k c e => by have h := List.mem_of_getElem? (by simpa using e); simp at h) (zA HS5))
   have HP := zB hp
   have HOB := zB hob
   obtain ⟨R, HRR⟩ : ∃ R, Hid (rightB ⟨m, 0, n3⟩ = R) := ⟨_, rfl⟩
   have HRW : Hid (∀ w4, Ops w4 → Calls Tryz.prog 106 #[.agg #[.int .i64 (m : Int), .int .i64 0, str n3]] w4 fun e w' => e = .returned (.bool R) ∧ Wp (fun _ => False) w4 w') := fun w4 h4 => by have h := (zA HR) 0 n3 w4 h4; rw [zA HRR] at h; exact h
   clear hby hp hob
   go_region_held3 (fun w' => w'.cell? ⟨w.heap.size, 0, none⟩ = some (.int .i64 (m : Int)) ∧ w'.cell? ⟨w.heap.size, 1, none⟩ = some (.int .i64 0) ∧ w'.cell? ⟨w.heap.size, 2, none⟩ = some (str n3))
    (first | with_reducible exact s50 | with_reducible exact s51 | with_reducible exact s52 | (go_keep; done) | assumption)
    (first
      | (go_at_call 106; refine ((zA HRW) _ ((zA HO5).keepF (Wp.refl _ w5).drew)).mono ?_; rintro e w6 ⟨rfl, hk6⟩; have q0 := (hk6.cell (o := 0) hxb5 id).trans f50; have q1 := (hk6.cell (o := 1) hxb5 id).trans f51; have q2 := (hk6.cell (o := 2) hxb5 id).trans f52; have hB6 := (hk6.block w.heap.size hxb5 id).trans (zA HHB5); have z0 := zF hB6 0; have z1 := zF hB6 1; have z2 := zF hB6 2; obtain ⟨s50, s51, s52⟩ := set3 hB6 (.int .i64 (m : Int)) (.int .i64 0) (str n3); have HB6 := zB hB6; clear hB6))
   have HK7 := zB (((zA HX5).drew.trans hk6).fresh (Nat.le_refl _) (zK w6 w.heap.size (.int .i64 (m : Int)) (.int .i64 0) (str n3)))
   have HB5 := zB ((zA HBY).keepF ((Wp.refl _ w5).drew.trans hk6))
   have HF7 := zB (zK w6 w.heap.size (.int .i64 (m : Int)) (.int .i64 0) (str n3))
   generalize (((w6.setCell ⟨w.heap.size, 0, none⟩ (.int .i64 (m : Int))).setCell ⟨w.heap.size, 1, none⟩ (.int .i64 0)).setCell ⟨w.heap.size, 2, none⟩ (str n3)) = w7 at s50 s51 s52 HK7 HF7 ⊢
   have HB7 := zB (bytes_apart (zA HB5) (zA HB6) (fun k c e => by have h := List.mem_of_getElem? (by simpa using e); simp at h) (zA HF7))
   clear hk6 q0 q1 q2 z0 z1 z2 f50 f51 f52
   go_wp2_with fail
   refine bodyPost_ret (v := .tuple #[ValA.v ⟨m, 0, n3⟩, _, .bool R]) (by simp [results, go_sem, ValA.v, s50, s51, s52]; rfl) rfl ?_
   refine ⟨zA HK7, _, _, _, rfl, ?_⟩
   rw [zA HP]
   simp only [Option.bind_some]
   rw [zA HRR]
   cases R with
   | false => rfl
   | true => exact ⟨rfl, rfl, zA HB7, zA HOB⟩
theorem take_byte (w : World) (b off cap : Nat) (c : UInt8) (r : Txt) (m : Nat) (hm : num c = m) (hO : Ops w) (hT : Types w) (h : Wv w (.slice (some ⟨b, off, none⟩) (c :: r).length cap) (c :: r)) (ht : (c :: r).length ≤ 4096) (hO0 : Ops w) (ho : opdB (m : Int) ≠ -1) (d : Int) (hx : (opA (m : Int)).opd = d) (t0 : (d == 0) = false) (t1 : (d == 1) = false) (t2 : (d == 2) = false) :
  Calls Tryz.prog 68 #[.slice (some ⟨b, off, none⟩) (c :: r).length cap] w fun e w' => Wp (fun _ => False) w w' ∧ ∃ x y ok, e = .returned (.tuple #[ValA.v x, y, .bool ok]) ∧ TookC w' x y ok b ((byteP r).bind fun p => if rightB ⟨m, p.1, []⟩ then some (⟨m, p.1, []⟩, p.2) else none) := by
 obtain ⟨b', off', cc, e1, hblt, hc⟩ := Ws.cells h (by simp)
 simp only [Value.slice.injEq, Option.some.injEq, Addr.mk.injEq] at e1
 obtain ⟨⟨rfl, rfl, _⟩, _, rfl⟩ := e1
 have c0 := (((Wp.refl (fun _ => False) w).alloc (.cells #[.int .i64 0, .int .i64 0, .string ⟨#[]⟩] 60)).cell hblt id).trans (hc 0 (.int .u8 (num c)) rfl)
 rw [Nat.add_zero, hm] at c0
 have hcr := num_range c
 have hroom := Ws.room h _ _ _ rfl
 have HRB := zB (rest_bytes h (k := 1) (by simp))
 have hlen : ((c :: r).length : Int) = (r.length : Int) + 1 := by simp
 have i1 : (1 : Int) ≤ (cap : Int) := by simp at hroom; omega
 have m255 : (m : Int) ≤ 255 := by omega
 have m0 : (0 : Int) ≤ (m : Int) := by omega
 generalize hL : (c :: r).length = L at *
 have HLL := zB hL
 have i2 : (L : Int) ≤ (cap : Int) := by omega
 have i3 : (1 : Int) ≤ (L : Int) := by omega
 have HRL : Hid (L - 1 = r.length) := by show _ = _; omega
 clear h hc hlen hroom hL
 obtain ⟨HX, hxb, hxc⟩ := boxed w #[.int .i64 (m : Int), .int .i64 0, .string ⟨#[]⟩] 60
 have HO := zB (hO.keepF (zA HX))
 have HT := zB (hT.keepF (zA HX))
 have HQ := zB (isOperation_v (m : Int) (w.alloc (.cells #[.int .i64 (m : Int), .int .i64 0, .string ⟨#[]⟩] 60)))
 have f0 := hxc 0 (.int .i64 (m : Int)) rfl
 have f1 := hxc 1 (.int .i64 0) rfl
 have f2 := hxc 2 (.string ⟨#[]⟩) rfl
 have hHB := heap_alloc_new w (.cells #[.int .i64 (m : Int), .int .i64 0, .string ⟨#[]⟩] 60)
 have HHB := zB hHB
 clear hxc hO hT hHB
 have HO0 : Hid (Ops w) := hO0
 have HY0 : Hid (Wp (fun _ => False) w w) := Wp.refl _ _
 have g1 := ((zA HO).at (m := m) (by have := opdB_range ho; omega)).1
 have m27 : (m : Int) < 27 := by have := opdB_range ho; omega
 rw [decide_eq_true ho] at HQ
 have HR : Hid (∀ (n : Int) (s : Txt) (w4 : World), Ops w4 → Calls Tryz.prog 106 #[.agg #[.int .i64 (m : Int), .int .i64 n, str s]] w4 _) := fun n s w4 h4 => rightOperand_v ⟨m, n, s⟩ w4 h4 ho
 rw [hx] at g1
 clear ho hx
 go_enter Tryz.func68, Tryz.ntmps68
 go_wp2_with fail
 refine (zA HQ).mono ?_
 rintro e w2 ⟨rfl, rfl⟩
 generalize w.alloc (.cells #[.int .i64 (m : Int), .int .i64 0, .string ⟨#[]⟩] 60) = w2 at f0 f1 f2 g1 HO HT HX HHB hxb ⊢
 obtain ⟨b2, off2, cap2, hsl, HRX⟩ : ∃ b2 off2 cap2, ((cap = 1 → b2 = b ∧ off2 = off ∧ cap2 = 0) ∧ (cap ≠ 1 → b2 = b ∧ off2 = off + 1 ∧ cap2 = cap - 1)) ∧ Hid (Wv w2 (.slice (some ⟨b2, off2, none⟩) r.length cap2) r) := by
  have h := (zA HRB).keepF (zA HX)
  rw [zA HRL] at h
  by_cases hcap : cap = 1
  ·rw [if_pos hcap] at h
   exact ⟨b, off, 0, ⟨fun _ => ⟨rfl, rfl, rfl⟩, fun hn => absurd hcap hn⟩, (by simpa [hcap] using h : Wv w2 _ r)⟩
  ·rw [if_neg hcap] at h
   exact ⟨b, off + 1, cap - 1, ⟨fun hn => absurd hn hcap, fun _ => ⟨rfl, rfl, rfl⟩⟩, h⟩
 have HCC := zB (takeByte_v w2 (.slice (some ⟨b2, off2, none⟩) r.length cap2) r (zA HRX) (by have := zA HLL; simp at this; omega))
 rw [← zA HRL] at HCC
 by_cases hcap : cap = 1
 case' pos =>
  obtain ⟨rfl, rfl, rfl⟩ := hsl.1 hcap
  subst hcap
 case' neg =>
  obtain ⟨rfl, rfl, rfl⟩ := hsl.2 hcap
 all_goals
  clear hsl
  go_wp2_with fail
  refine (zA HCC).mono ?_
  rintro e w3 ⟨hk3, n3, y3, ok, rfl, hTK⟩
  have hB3 := (hk3.block w.heap.size hxb id).trans (zA HHB)
  have z1 := zF hB3 1
  have p1 := (hk3.cell (o := 1) hxb id).trans f1
  have hB5 := zH (o := 1) hB3 (.int .i64 n3)
  have HHB5 : Hid ((w3.setCell ⟨w.heap.size, 1, none⟩ (.int .i64 n3)).heap[w.heap.size]? = some (.cells #[.int .i64 (m : Int), .int .i64 n3, .string ⟨#[]⟩] 60 (0, 0))) := hB5
  have HX5 := zB (((zA HX).trans hk3).fresh (Nat.le_refl _) (keeps_set1 w3 w.heap.size 1 (.int .i64 n3)))
  have HS5 := zB (keeps_set1 w3 w.heap.size 1 (.int .i64 n3))
  have hxb5 : w.heap.size < (w3.setCell ⟨w.heap.size, 1, none⟩ (.int .i64 n3)).heap.size := by have := hk3.size; simp; omega
  have HO5 := zB (((zA HO).keepF hk3).keep (zA HS5) (by have := (zA HO0).lt; show ¬ 1 = w.heap.size; omega))
  have HTK5 := zB hTK
  have HB3 := zB hB3
  clear hB3 hB5 HCC hTK g1 f0 f1 f2
  go_wp2_with fail
  generalize (w3.setCell ⟨w.heap.size, 1, none⟩ (.int .i64 n3)) = w5 at HHB5 HX5 HO5 HS5 hxb5 ⊢
  have f50 := (zC (zA HHB5) 0).trans (show (#[.int .i64 (m : Int), .int .i64 n3, .string ⟨#[]⟩] : Array Value)[0]? = some (.int .i64 (m : Int)) from rfl)
  have f51 := (zC (zA HHB5) 1).trans (show (#[.int .i64 (m : Int), .int .i64 n3, .string ⟨#[]⟩] : Array Value)[1]? = some (.int .i64 n3) from rfl)
  have f52 := (zC (zA HHB5) 2).trans (show (#[.int .i64 (m : Int), .int .i64 n3, .string ⟨#[]⟩] : Array Value)[2]? = some (.string ⟨#[]⟩) from rfl)
  clear z1 p1
  cases hp : byteP r with
  | none =>
   have hok : ok = false := by have h := zA HTK5; rw [hp] at h; exact h
   subst hok
   have z0 := zF (zA HHB5) 0
   have z1 := zF (zA HHB5) 1
   have z2 := zF (zA HHB5) 2
   obtain ⟨s50, s51, s52⟩ := set3 (zA HHB5) (.int .i64 (m : Int)) (.int .i64 n3) (.string ⟨#[]⟩)
   go_region
   have HK7 := zB ((zA HX5).fresh (Nat.le_refl _) (zK w5 w.heap.size (.int .i64 (m : Int)) (.int .i64 n3) (.string ⟨#[]⟩)))
   generalize (((w5.setCell ⟨w.heap.size, 0, none⟩ (.int .i64 (m : Int))).setCell ⟨w.heap.size, 1, none⟩ (.int .i64 n3)).setCell ⟨w.heap.size, 2, none⟩ (.string ⟨#[]⟩)) = w7 at s50 s51 s52 HK7 ⊢
   have e50 : w7.drew.cell? ⟨w.heap.size, 0, none⟩ = some (.int .i64 (m : Int)) := s50
   have e51 : w7.drew.cell? ⟨w.heap.size, 1, none⟩ = some (.int .i64 n3) := s51
   have e52 : w7.drew.cell? ⟨w.heap.size, 2, none⟩ = some (.string ⟨#[]⟩) := s52
   have HK8 := zB ((zA HK7).drew)
   generalize w7.drew = w8 at e50 e51 e52 HK8 ⊢
   clear z0 z1 z2 f50 f51 f52 s50 s51 s52
   go_wp2_with fail
   refine bodyPost_ret (v := .tuple #[ValA.v ⟨m, n3, []⟩, _, .bool false]) (by simp [results, go_sem, ValA.v, e50, e51, e52]; rfl) rfl ?_
   exact ⟨zA HK8, _, _, _, rfl, by rw [hp]; rfl⟩
  | some p =>
   obtain ⟨n4, r3⟩ := p
   obtain ⟨hok, hn4, hby, hob⟩ : ok = true ∧ n3 = n4 ∧ Wv w3 y3 r3 ∧ y3.ownBlock = some _ := by have h := zA HTK5; rw [hp] at h; exact h
   subst hok hn4
   have HBY := zB (bytes_apart hby (zA HB3) (fun k c e => by have h := List.mem_of_getElem? (by simpa using e); simp at h) (zA HS5))
   have HP := zB hp
   have HOB := zB hob
   obtain ⟨R, HRR⟩ : ∃ R, Hid (rightB ⟨m, n3, []⟩ = R) := ⟨_, rfl⟩
   have HRW : Hid (∀ w4, Ops w4 → Calls Tryz.prog 106 #[.agg #[.int .i64 (m : Int), .int .i64 n3, .string ⟨#[]⟩]] w4 fun e w' => e = .returned (.bool R) ∧ Wp (fun _ => False) w4 w') := fun w4 h4 => by have h := (zA HR) n3 [] w4 h4; rw [zA HRR] at h; exact h
   clear hby hp hob
   go_region_held3 (fun w' => w'.cell? ⟨w.heap.size, 0, none⟩ = some (.int .i64 (m : Int)) ∧ w'.cell? ⟨w.heap.size, 1, none⟩ = some (.int .i64 n3) ∧ w'.cell? ⟨w.heap.size, 2, none⟩ = some (.string ⟨#[]⟩))
    (first | with_reducible exact s50 | with_reducible exact s51 | with_reducible exact s52 | (go_keep; done) | assumption)
    (first
      | (go_at_call 106; refine ((zA HRW) _ ((zA HO5).keepF (Wp.refl _ w5).drew)).mono ?_; rintro e w6 ⟨rfl, hk6⟩; have q0 := (hk6.cell (o := 0) hxb5 id).trans f50; have q1 := (hk6.cell (o := 1) hxb5 id).trans f51; have q2 := (hk6.cell (o := 2) hxb5 id).trans f52; have hB6 := (hk6.block w.heap.size hxb5 id).trans (zA HHB5); have z0 := zF hB6 0; have z1 := zF hB6 1; have z2 := zF hB6 2; obtain ⟨s50, s51, s52⟩ := set3 hB6 (.int .i64 (m : Int)) (.int .i64 n3) (.string ⟨#[]⟩); have HB6 := zB hB6; clear hB6))
   have HK7 := zB (((zA HX5).drew.trans hk6).fresh (Nat.le_refl _) (zK w6 w.heap.size (.int .i64 (m : Int)) (.int .i64 n3) (.string ⟨#[]⟩)))
   have HB5 := zB ((zA HBY).keepF ((Wp.refl _ w5).drew.trans hk6))
   have HF7 := zB (zK w6 w.heap.size (.int .i64 (m : Int)) (.int .i64 n3) (.string ⟨#[]⟩))
   generalize (((w6.setCell ⟨w.heap.size, 0, none⟩ (.int .i64 (m : Int))).setCell ⟨w.heap.size, 1, none⟩ (.int .i64 n3)).setCell ⟨w.heap.size, 2, none⟩ (.string ⟨#[]⟩)) = w7 at s50 s51 s52 HK7 HF7 ⊢
   have HB7 := zB (bytes_apart (zA HB5) (zA HB6) (fun k c e => by have h := List.mem_of_getElem? (by simpa using e); simp at h) (zA HF7))
   clear hk6 q0 q1 q2 z0 z1 z2 f50 f51 f52
   go_wp2_with fail
   refine bodyPost_ret (v := .tuple #[ValA.v ⟨m, n3, []⟩, _, .bool R]) (by simp [results, go_sem, ValA.v, s50, s51, s52]; rfl) rfl ?_
   refine ⟨zA HK7, _, _, _, rfl, ?_⟩
   rw [zA HP]
   simp only [Option.bind_some]
   rw [zA HRR]
   cases R with
   | false => rfl
   | true => exact ⟨rfl, rfl, zA HB7, zA HOB⟩
end Go.Proofs.YtbdlcaamanhapaaGreatDoor
