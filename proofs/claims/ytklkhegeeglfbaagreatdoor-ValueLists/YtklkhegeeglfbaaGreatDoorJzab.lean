import Derived.Test.YtklkhegeeglfbaaGreatDoorJzaa
namespace Go.Proofs.YtklkhegeeglfbaaGreatDoor
open Go.RowKit Go.Maps

/-- The value at a place, or the empty one. -/
def valAt (vs : List ValA) (k : Nat) : ValA := (vs[k]?).getD zeroVal
/-- The first k values of the record that Fitted makes. -/
def fittedTo (l : List FieldA) (vs : List ValA) : Nat → List ValA
  | 0 => []
  | k + 1 => fittedTo l vs k ++ (match l[k]? with | some f => [fittedB f (valAt vs k)] | none => [])
theorem fittedTo_snoc {l : List FieldA} {vs : List ValA} {k : Nat} {f : FieldA} (h : l[k]? = some f) : fittedTo l vs (k + 1) = fittedTo l vs k ++ [fittedB f (valAt vs k)] := by simp [fittedTo, h]
theorem fittedTo_length (l : List FieldA) (vs : List ValA) : ∀ k, k ≤ l.length → (fittedTo l vs k).length = k
  | 0, _ => rfl
  | k + 1, h => by
    rw [fittedTo_snoc (List.getElem?_eq_getElem (by omega)), List.length_append, fittedTo_length l vs k (by omega)]
    rfl
def FittedB (l : List FieldA) (vs : List ValA) : List ValA := fittedTo l vs l.length

theorem set3_facts {w4 : World} {S : Nat} {z : ValA} (hb : w4.heap[S]? = some (.cells #[.int .i64 0, .int .i64 0, .string ⟨#[]⟩] 40 (0, 0))) :
    Keeps (fun q => q = S) w4 (((w4.setCell ⟨S, 0, none⟩ (.int .i64 z.kind)).setCell ⟨S, 1, none⟩ (.int .i64 z.n)).setCell ⟨S, 2, none⟩ (.string ⟨z.s.toArray⟩)) ∧
    (((w4.setCell ⟨S, 0, none⟩ (.int .i64 z.kind)).setCell ⟨S, 1, none⟩ (.int .i64 z.n)).setCell ⟨S, 2, none⟩ (.string ⟨z.s.toArray⟩)).cell? ⟨S, 0, none⟩ = some (.int .i64 z.kind) ∧
    (((w4.setCell ⟨S, 0, none⟩ (.int .i64 z.kind)).setCell ⟨S, 1, none⟩ (.int .i64 z.n)).setCell ⟨S, 2, none⟩ (.string ⟨z.s.toArray⟩)).cell? ⟨S, 1, none⟩ = some (.int .i64 z.n) ∧
    (((w4.setCell ⟨S, 0, none⟩ (.int .i64 z.kind)).setCell ⟨S, 1, none⟩ (.int .i64 z.n)).setCell ⟨S, 2, none⟩ (.string ⟨z.s.toArray⟩)).cell? ⟨S, 2, none⟩ = some (str z.s) := by
  have hb3 := heap_setCell_at (o := 2) (heap_setCell_at (o := 1) (heap_setCell_at (o := 0) hb (.int .i64 z.kind)) (.int .i64 z.n)) (.string ⟨z.s.toArray⟩)
  have hs : ∀ (a : World) (o : Nat) (v : Value), Keeps (fun q => q = S) w4 a → Keeps (fun q => q = S) w4 (a.setCell ⟨S, o, none⟩ v) := fun a o v h => h.setCell (fun _ => rfl) v
  refine ⟨hs _ 2 _ (hs _ 1 _ (hs _ 0 _ (Keeps.refl _ w4))), ?_, ?_, ?_⟩
  · rw [cell_of_blk hb3]; rfl
  · rw [cell_of_blk hb3]; rfl
  · rw [cell_of_blk hb3]; rfl

set_option maxRecDepth 100000 in
set_option maxHeartbeats 4000000 in
theorem Fitted_v (l : List FieldA) (v : Value) (vs : List ValA) (u : Value) (w : World) (h : FldsAt w v l) (hr : ValsAt w u vs) (hl : l.length ≤ 8) (hvl : vs.length ≤ 140737488355328) :
    Calls Tryz.prog 5 #[.agg #[v], u] w fun e w' => ∃ v', e = .returned v' ∧ w'.ownsRow w.heap.size 40 3 v' l.length (vcs (FittedB l vs)) ∧ Keeps (fun _ => False) w w' := by
  obtain ⟨i0, hi, hz0, hz1, hz2⟩ := info_parts Tryz.info40
  obtain ⟨ao, cap, rfl⟩ := RowAt.form h
  obtain ⟨bo, cbp, rfl⟩ := RowAt.form hr
  obtain ⟨HB, hb, hbc⟩ := boxed w #[.slice ao l.length cap] 26
  have hp := hbc 0 (.slice ao l.length cap) rfl
  have HF := hide (h.keepF (unhide HB))
  have HV := hide (hr.keepF (unhide HB))
  have HZ : Hid (FittedB l vs = fittedTo l vs l.length) := rfl
  generalize FittedB l vs = Z at *
  clear hbc h hr
  go_enter Tryz.func5, Tryz.ntmps5
  go_wp2_with fail
  have hw2 : w.heap.size ≤ (w.alloc (.cells #[.slice ao l.length cap] 26)).heap.size := by simp
  generalize w.alloc (.cells #[.slice ao l.length cap] 26) = w2 at *
  go_loopw [5, 6] (fun o i wr => ∃ k : Nat, k ≤ l.length ∧ i = .int .i64 k ∧ wr.ownsRow w2.heap.size 40 3 o k (vcs (fittedTo l vs k)) ∧ Keeps (fun _ => False) w2 wr) (fun _ i _ => l.length - (intOf i).toNat)
  case atStart => exact ⟨0, Nat.zero_le _, rfl, by simpa [vcs, fittedTo] using World.ownsRow_nil w2 w2.heap.size 40 3, Keeps.refl _ _⟩
  case round =>
    obtain ⟨k, hk, rfl, hown, hkp⟩ := hrel
    have HO := hide hown
    have HK := hide hkp
    have p0 := (hkp.cell (o := 0) hb id).trans hp
    by_cases hlt : k < l.length
    · obtain ⟨b, off, c, e1, hblt, hc⟩ := (unhide HF).cells (by omega)
      simp at e1
      obtain ⟨rfl, rfl⟩ := e1
      obtain ⟨f, hf⟩ : ∃ f, l[k]? = some f := ⟨_, List.getElem?_eq_getElem hlt⟩
      have i1 : (k : Int) < (l.length : Int) := by omega
      have i0' : (0 : Int) ≤ (k : Int) := by omega
      have HS := hide (fittedTo_snoc (vs := vs) hf)
      obtain ⟨x, HXV⟩ : ∃ x, Hid (valAt vs k = x) := ⟨_, rfl⟩
      rw [unhide HXV] at HS
      have hcx : (∃ b' off' cc, (Value.slice bo vs.length cbp) = .slice (some ⟨b', off', none⟩) vs.length cc ∧ (k : Int) < (vs.length : Int) ∧ wr.cell? ⟨b', off' + k * 3, none⟩ = some (.int .i64 x.kind) ∧ wr.cell? ⟨b', off' + k * 3 + 1, none⟩ = some (.int .i64 x.n) ∧ wr.cell? ⟨b', off' + k * 3 + 2, none⟩ = some (str x.s) ∧ b' < wr.heap.size) ∨ ((vs.length : Int) ≤ (k : Int) ∧ x = ⟨0, 0, []⟩) := by
        cases hx : vs[k]? with
        | none =>
          right
          have := get_ge hx
          refine ⟨by omega, ?_⟩
          rw [← unhide HXV]
          simp [valAt, hx, zeroVal]
        | some y =>
          left
          have hyx : y = x := by rw [← unhide HXV]; simp [valAt, hx]
          subst hyx
          have := get_lt hx
          obtain ⟨b', off', cc, e', hbl', hc'⟩ := (unhide HV).cells (by omega)
          exact ⟨b', off', cc, e', by omega, (hkp.cell hbl' id).trans (hc' k y hx).1, (hkp.cell hbl' id).trans (hc' k y hx).2.1, (hkp.cell hbl' id).trans (hc' k y hx).2.2, Nat.lt_of_lt_of_le hbl' hkp.size⟩
      obtain ⟨HX, hxb, hxc⟩ := boxed wr #[.int .i64 x.kind, .int .i64 x.n, str x.s] 40
      have K0 := hkp.trans (unhide HX)
      have K1 := K0.alloc (.cells #[.int .i64 0, .int .i64 0, .string ⟨#[]⟩] 40)
      have A1 : Keeps (fun _ => False) (wr.alloc (.cells #[.int .i64 x.kind, .int .i64 x.n, str x.s] 40)) ((wr.alloc (.cells #[.int .i64 x.kind, .int .i64 x.n, str x.s] 40)).alloc (.cells #[.int .i64 0, .int .i64 0, .string ⟨#[]⟩] 40)) := (Keeps.refl _ _).alloc _
      have c0 := (K1.cell hblt id).trans (hc k f hf).1
      have c1 := (K1.cell hblt id).trans (hc k f hf).2.1
      have c2 := (K1.cell hblt id).trans (hc k f hf).2.2
      have C0 := (K0.cell hblt id).trans (hc k f hf).1
      have C1 := (K0.cell hblt id).trans (hc k f hf).2.1
      have C2 := (K0.cell hblt id).trans (hc k f hf).2.2
      have X0 := hxc 0 _ rfl
      have X1 := hxc 1 _ rfl
      have X2 := hxc 2 _ rfl
      have x0 := (A1.cell hxb id).trans X0
      have x1 := (A1.cell hxb id).trans X1
      have x2 := (A1.cell hxb id).trans X2
      have hP := (K0.cell (o := 0) hb id).trans hp
      have hp' := (K1.cell (o := 0) hb id).trans hp
      have HQ := hide (fitted_v f x ((wr.alloc (.cells #[.int .i64 x.kind, .int .i64 x.n, str x.s] 40)).alloc (.cells #[.int .i64 0, .int .i64 0, .string ⟨#[]⟩] 40)).drew)
      have HQb := hide (fitted_v f x (wr.alloc (.cells #[.int .i64 x.kind, .int .i64 x.n, str x.s] 40)).drew)
      have z0 : w.heap.size < (((wr.alloc (.cells #[.int .i64 x.kind, .int .i64 x.n, str x.s] 40)).alloc (.cells #[.int .i64 0, .int .i64 0, .string ⟨#[]⟩] 40)).drewN 1).heap.size := Nat.lt_of_lt_of_le hb K1.size
      have z1 : b < (((wr.alloc (.cells #[.int .i64 x.kind, .int .i64 x.n, str x.s] 40)).alloc (.cells #[.int .i64 0, .int .i64 0, .string ⟨#[]⟩] 40)).drewN 1).heap.size := Nat.lt_of_lt_of_le hblt K1.size
      have z2 : wr.heap.size < (((wr.alloc (.cells #[.int .i64 x.kind, .int .i64 x.n, str x.s] 40)).alloc (.cells #[.int .i64 0, .int .i64 0, .string ⟨#[]⟩] 40)).drewN 1).heap.size := Nat.lt_of_lt_of_le hxb A1.size
      have z3 : wr.heap.size + 1 < (((wr.alloc (.cells #[.int .i64 x.kind, .int .i64 x.n, str x.s] 40)).alloc (.cells #[.int .i64 0, .int .i64 0, .string ⟨#[]⟩] 40)).drewN 1).heap.size := by
        show _ < ((wr.alloc _).alloc _).heap.size
        simp
      have HN8 : Hid ((((wr.alloc (.cells #[.int .i64 x.kind, .int .i64 x.n, str x.s] 40)).alloc (.cells #[.int .i64 0, .int .i64 0, .string ⟨#[]⟩] 40)).drewN 1).heap[wr.heap.size + 1]? = some (.cells #[.int .i64 0, .int .i64 0, .string ⟨#[]⟩] 40 (0, 0))) := by
        have q := heap_alloc_new (wr.alloc (.cells #[.int .i64 x.kind, .int .i64 x.n, str x.s] 40)) (.cells #[.int .i64 0, .int .i64 0, .string ⟨#[]⟩] 40)
        rw [World.size_alloc] at q
        exact q
      have n1 : ¬ w.heap.size = wr.heap.size + 1 := by have := (unhide HK).size; omega
      have n2 : ¬ b = wr.heap.size + 1 := by have := (unhide HK).size; omega
      have n3 : ¬ wr.heap.size + 1 = w.heap.size := fun e => n1 e.symm
      have n4 : ¬ wr.heap.size + 1 = b := fun e => n2 e.symm
      have HK1 := hide (K1.drewN 1)
      have HK0 := hide (K0.drewN 1)
      have y0 : w.heap.size < (wr.alloc (.cells #[.int .i64 x.kind, .int .i64 x.n, str x.s] 40)).drew.heap.size := Nat.lt_of_lt_of_le hb K0.size
      have y1 : b < (wr.alloc (.cells #[.int .i64 x.kind, .int .i64 x.n, str x.s] 40)).drew.heap.size := Nat.lt_of_lt_of_le hblt K0.size
      have y2 : wr.heap.size < (wr.alloc (.cells #[.int .i64 x.kind, .int .i64 x.n, str x.s] 40)).drew.heap.size := hxb
      have HO0 : Hid ((wr.alloc (.cells #[.int .i64 x.kind, .int .i64 x.n, str x.s] 40)).drew.ownsRow w2.heap.size 40 3 u5 k (vcs (fittedTo l vs k))) := (unhide HO).alloc _
      have HO1 : Hid ((((wr.alloc (.cells #[.int .i64 x.kind, .int .i64 x.n, str x.s] 40)).alloc (.cells #[.int .i64 0, .int .i64 0, .string ⟨#[]⟩] 40)).drewN 1).ownsRow w2.heap.size 40 3 u5 k (vcs (fittedTo l vs k))) := ((unhide HO).alloc _).alloc _
      generalize fittedB f x = z at *
      clear hkp hc hf hxc K1 K0 A1 hown
      unfold FieldA.v ValA.v at HQ HQb
      rcases hcx with ⟨b', off', cc, e', i3, d0, d1, d2, hb'⟩ | ⟨i3, hx0⟩
      case inl =>
        simp only [Value.slice.injEq] at e'
        obtain ⟨rfl, _, rfl⟩ := e'
        go_wp2_with fail
        go_region_held3 (fun w' => w'.cell? ⟨w.heap.size, 0, none⟩ = some (.slice (some ⟨b, off, none⟩) l.length cap) ∧ w'.cell? ⟨b, off + k * 3, none⟩ = some (str f.name) ∧ w'.cell? ⟨b, off + k * 3 + 1, none⟩ = some (.int .i64 f.type) ∧ w'.cell? ⟨b, off + k * 3 + 2, none⟩ = some (.bool f.opt) ∧ w'.cell? ⟨wr.heap.size, 0, none⟩ = some (.int .i64 x.kind) ∧ w'.cell? ⟨wr.heap.size, 1, none⟩ = some (.int .i64 x.n) ∧ w'.cell? ⟨wr.heap.size, 2, none⟩ = some (str x.s))
          (go_keep)
          (first
            | (go_at_call 30
               with_reducible refine (unhide HQ).mono ?_
               rintro e w4 ⟨rfl, hk4⟩
               have q0 := (hk4.cell (o := 0) z0 id).trans hp'
               have q1 := (hk4.cell z1 id).trans c0
               have q2 := (hk4.cell z1 id).trans c1
               have q3 := (hk4.cell z1 id).trans c2
               have q4 := (hk4.cell z2 id).trans x0
               have q5 := (hk4.cell z2 id).trans x1
               have q6 := (hk4.cell z2 id).trans x2
               have hblk := (hk4.block _ z3 id).trans (unhide HN8)
               have d8 := cell_of_blk hblk 0
               have d9 := cell_of_blk hblk 1
               have d10 := cell_of_blk hblk 2
               have f8 := frozen_of_blk hblk 0
               have f9 := frozen_of_blk hblk 1
               have f10 := frozen_of_blk hblk 2
               have HB8 := hide hblk
               clear hblk
               have HO4 := hide (ownsRow_kept (unhide HO1) hk4 (fun _ _ => id))
               have K4 := hide ((unhide HK1).trans hk4)
               clear hk4)
            | (go_at_call 30
               with_reducible refine (unhide HQb).mono ?_
               rintro e w4 ⟨rfl, hk4⟩
               have q0 := (hk4.cell (o := 0) y0 id).trans hP
               have q1 := (hk4.cell y1 id).trans C0
               have q2 := (hk4.cell y1 id).trans C1
               have q3 := (hk4.cell y1 id).trans C2
               have q4 := (hk4.cell y2 id).trans X0
               have q5 := (hk4.cell y2 id).trans X1
               have q6 := (hk4.cell y2 id).trans X2
               have HO4 := hide (ownsRow_kept (unhide HO0) hk4 (fun _ _ => id))
               have K4 := hide ((unhide HK0).trans hk4)
               have markb : True := trivial
               clear hk4))
        all_goals
          first
          | (clear markb
             obtain ⟨HB5, hb5, hbc5⟩ := boxed w4 #[.int .i64 z.kind, .int .i64 z.n, .string ⟨z.s.toArray⟩] 40
             have E0 := hbc5 0 _ rfl
             have E1 := hbc5 1 _ rfl
             have E2 := hbc5 2 _ rfl
             have HO5 := hide ((unhide HO4).alloc (.cells #[.int .i64 z.kind, .int .i64 z.n, .string ⟨z.s.toArray⟩] 40))
             have HK5 := hide ((unhide K4).trans (unhide HB5))
             clear hbc5 hb5 HB5
             generalize w4.alloc (.cells #[.int .i64 z.kind, .int .i64 z.n, .string ⟨z.s.toArray⟩] 40) = w5 at *
             generalize w4.heap.size = P8 at *)
          | (obtain ⟨hks, E0, E1, E2⟩ := set3_facts (z := z) (unhide HB8)
             have HO5 := hide (ownsRow_kept (unhide HO4) hks (fun q e hq => by have := ((unhide HO).lt q e).2; omega))
             have HK5 := hide ((unhide K4).narrowS hks (fun i e => by have := (unhide HK).size; omega))
             clear hks
             generalize ((w4.setCell ⟨wr.heap.size + 1, 0, none⟩ (.int .i64 z.kind)).setCell ⟨wr.heap.size + 1, 1, none⟩ (.int .i64 z.n)).setCell ⟨wr.heap.size + 1, 2, none⟩ (.string ⟨z.s.toArray⟩) = w5 at *)
          have s5 : w2.heap.size ≤ w5.heap.size := (unhide HK5).size
          clear q0 q1 q2 q3 q4 q5 q6 HO4 K4 HQ HQb
          go_wp2_with (at_builtin; refine wpList_append_lies _ rfl _ _ _ rfl w2.heap.size 40 i0 _ 3 32 Tryz.underlying23 hi hz0 hz1 hz2 rfl (by omega) u5 k (vcs (fittedTo l vs k)) rfl ((unhide HO5).alloc _) ⟨w5.heap.size, 0, none⟩ 1 1 z.cs rfl rfl (World.news_of_block (cs := #[.int .i64 z.kind, .int .i64 z.n, str z.s]) (t := 40) (fr := (0, 0)) (heap_alloc_new w5 _)) (by simp [Value.oneCell', ValA.cs]) (by omega) (by unfold maxLen; omega) (by omega) (by simp; omega) (w5.heap.size + 1) (by simp) ?_; intro g cap' w6 hown1 hgrow hat hlt1)
          go_roundw
          case rel =>
            refine ⟨k + 1, by omega, by go_num, ?_, ((unhide HK5).alloc _).grown hgrow (fun q e hq => by have := ((unhide HO5).lt q e).1; omega)⟩
            rw [unhide HS, vcs_snoc]
            exact hown1
          case measure => simp [intOf]; omega
      case inr =>
        have e0 : x.kind = 0 := by rw [hx0]
        have e1 : x.n = 0 := by rw [hx0]
        have e2 : x.s = [] := by rw [hx0]
        obtain ⟨xk, xn, xs⟩ := x
        simp only at e0 e1 e2
        subst e0 e1 e2
        clear hx0
        simp only at *
        go_wp2_with fail
        go_region_held3 (fun w' => w'.cell? ⟨w.heap.size, 0, none⟩ = some (.slice (some ⟨b, off, none⟩) l.length cap) ∧ w'.cell? ⟨b, off + k * 3, none⟩ = some (str f.name) ∧ w'.cell? ⟨b, off + k * 3 + 1, none⟩ = some (.int .i64 f.type) ∧ w'.cell? ⟨b, off + k * 3 + 2, none⟩ = some (.bool f.opt) ∧ w'.cell? ⟨wr.heap.size, 0, none⟩ = some (.int .i64 0) ∧ w'.cell? ⟨wr.heap.size, 1, none⟩ = some (.int .i64 0) ∧ w'.cell? ⟨wr.heap.size, 2, none⟩ = some (str []))
          (go_keep)
          (first
            | (go_at_call 30
               with_reducible refine (unhide HQ).mono ?_
               rintro e w4 ⟨rfl, hk4⟩
               have q0 := (hk4.cell (o := 0) z0 id).trans hp'
               have q1 := (hk4.cell z1 id).trans c0
               have q2 := (hk4.cell z1 id).trans c1
               have q3 := (hk4.cell z1 id).trans c2
               have q4 := (hk4.cell z2 id).trans x0
               have q5 := (hk4.cell z2 id).trans x1
               have q6 := (hk4.cell z2 id).trans x2
               have hblk := (hk4.block _ z3 id).trans (unhide HN8)
               have d8 := cell_of_blk hblk 0
               have d9 := cell_of_blk hblk 1
               have d10 := cell_of_blk hblk 2
               have f8 := frozen_of_blk hblk 0
               have f9 := frozen_of_blk hblk 1
               have f10 := frozen_of_blk hblk 2
               have HB8 := hide hblk
               clear hblk
               have HO4 := hide (ownsRow_kept (unhide HO1) hk4 (fun _ _ => id))
               have K4 := hide ((unhide HK1).trans hk4)
               clear hk4)
            | (go_at_call 30
               with_reducible refine (unhide HQb).mono ?_
               rintro e w4 ⟨rfl, hk4⟩
               have q0 := (hk4.cell (o := 0) y0 id).trans hP
               have q1 := (hk4.cell y1 id).trans C0
               have q2 := (hk4.cell y1 id).trans C1
               have q3 := (hk4.cell y1 id).trans C2
               have q4 := (hk4.cell y2 id).trans X0
               have q5 := (hk4.cell y2 id).trans X1
               have q6 := (hk4.cell y2 id).trans X2
               have HO4 := hide (ownsRow_kept (unhide HO0) hk4 (fun _ _ => id))
               have K4 := hide ((unhide HK0).trans hk4)
               have markb : True := trivial
               clear hk4))
        all_goals
          first
          | (clear markb
             obtain ⟨HB5, hb5, hbc5⟩ := boxed w4 #[.int .i64 z.kind, .int .i64 z.n, .string ⟨z.s.toArray⟩] 40
             have E0 := hbc5 0 _ rfl
             have E1 := hbc5 1 _ rfl
             have E2 := hbc5 2 _ rfl
             have HO5 := hide ((unhide HO4).alloc (.cells #[.int .i64 z.kind, .int .i64 z.n, .string ⟨z.s.toArray⟩] 40))
             have HK5 := hide ((unhide K4).trans (unhide HB5))
             clear hbc5 hb5 HB5
             generalize w4.alloc (.cells #[.int .i64 z.kind, .int .i64 z.n, .string ⟨z.s.toArray⟩] 40) = w5 at *
             generalize w4.heap.size = P8 at *)
          | (obtain ⟨hks, E0, E1, E2⟩ := set3_facts (z := z) (unhide HB8)
             have HO5 := hide (ownsRow_kept (unhide HO4) hks (fun q e hq => by have := ((unhide HO).lt q e).2; omega))
             have HK5 := hide ((unhide K4).narrowS hks (fun i e => by have := (unhide HK).size; omega))
             clear hks
             generalize ((w4.setCell ⟨wr.heap.size + 1, 0, none⟩ (.int .i64 z.kind)).setCell ⟨wr.heap.size + 1, 1, none⟩ (.int .i64 z.n)).setCell ⟨wr.heap.size + 1, 2, none⟩ (.string ⟨z.s.toArray⟩) = w5 at *)
          have s5 : w2.heap.size ≤ w5.heap.size := (unhide HK5).size
          clear q0 q1 q2 q3 q4 q5 q6 HO4 K4 HQ HQb
          go_wp2_with (at_builtin; refine wpList_append_lies _ rfl _ _ _ rfl w2.heap.size 40 i0 _ 3 32 Tryz.underlying23 hi hz0 hz1 hz2 rfl (by omega) u5 k (vcs (fittedTo l vs k)) rfl ((unhide HO5).alloc _) ⟨w5.heap.size, 0, none⟩ 1 1 z.cs rfl rfl (World.news_of_block (cs := #[.int .i64 z.kind, .int .i64 z.n, str z.s]) (t := 40) (fr := (0, 0)) (heap_alloc_new w5 _)) (by simp [Value.oneCell', ValA.cs]) (by omega) (by unfold maxLen; omega) (by omega) (by simp; omega) (w5.heap.size + 1) (by simp) ?_; intro g cap' w6 hown1 hgrow hat hlt1)
          go_roundw
          case rel =>
            refine ⟨k + 1, by omega, by go_num, ?_, ((unhide HK5).alloc _).grown hgrow (fun q e hq => by have := ((unhide HO5).lt q e).1; omega)⟩
            rw [unhide HS, vcs_snoc]
            exact hown1
          case measure => simp [intOf]; omega
    · clear hown hkp
      go_wp2
      go_ret
      obtain rfl : k = l.length := by omega
      refine ⟨_, rfl, ?_, (unhide HB).trans (unhide HK)⟩
      rw [unhide HZ]
      exact ownsRow_lower (unhide HO) hw2

end Go.Proofs.YtklkhegeeglfbaaGreatDoor
namespace Go.Proofs.YtklkhegeeglfbaaGreatDoor
open Go.RowKit Go.Maps

/-- The field that a number makes at place j. -/
def shapeF (n : Int) (j : Nat) : FieldA := ⟨[102, UInt8.ofNat (97 + j)], 1 + n % 6 % 3, decide (3 ≤ n % 6)⟩
def shapedGo : List Int → List FieldA → Int → List FieldA
  | [], L, _ => L
  | n :: r, L, W => if 8 ≤ L.length then L else if W + wideB (shapeF n L.length).type ≤ 64 then shapedGo r (L ++ [shapeF n L.length]) (W + wideB (shapeF n L.length).type) else shapedGo r L W
def shapedB (ns : List Int) : List FieldA := if shapedGo ns [] 1 = [] then [⟨[110], 1, false⟩] else shapedGo ns [] 1
theorem shapedGo_full {ns : List Int} {L : List FieldA} {W : Int} (h : 8 ≤ L.length) : shapedGo ns L W = L := by
  cases ns with
  | nil => rfl
  | cons n r => rw [shapedGo, if_pos h]

def IntsAt (w : World) (v : Value) (l : List Int) : Prop := RowAt w v l.length (l.map fun n => Value.int .i64 n)
theorem fcs_snoc (l : List FieldA) (f : FieldA) : fcs (l ++ [f]) = fcs l ++ f.cs := by simp [fcs]

theorem new3 (w : World) (a b c : Obj) : (((w.alloc a).alloc b).alloc c).heap[w.heap.size + 1 + 1]? = some c := by
  have q := heap_alloc_new ((w.alloc a).alloc b) c
  rw [World.size_alloc, World.size_alloc] at q
  exact q
theorem old3 (w : World) (a b c : Obj) {k : Nat} {o : Obj} (hk : k < w.heap.size) (h : w.heap[k]? = some o) : (((w.alloc a).alloc b).alloc c).heap[k]? = some o := by
  rw [Below.heap_alloc _ _ _ (by simp; omega), Below.heap_alloc _ _ _ (by simp; omega), Below.heap_alloc _ _ _ hk]
  exact h

set_option maxRecDepth 100000 in
set_option maxHeartbeats 8000000 in
theorem Shaped_v (ns : List Int) (v : Value) (w : World) (h : IntsAt w v ns) (hns : ns.length ≤ 140737488355328) :
    Calls Tryz.prog 4 #[v] w fun e w' => ∃ v', e = .returned (.agg #[v']) ∧ w'.ownsRow w.heap.size 69 3 v' (shapedB ns).length (fcs (shapedB ns)) ∧ Keeps (fun _ => False) w w' := by
  obtain ⟨i0, hi, hz0, hz1, hz2⟩ := info_parts Tryz.info69
  obtain ⟨ao, cap, rfl⟩ := RowAt.form h
  obtain ⟨w3, hw3⟩ : ∃ w3, w3 = (w.alloc (.cells #[.slice none 0 0] 26)).alloc (.cells #[.slice none 0 0] 26) := ⟨_, rfl⟩
  have hK : Keeps (fun _ => False) w w3 := by rw [hw3]; exact ((Keeps.refl _ _).alloc _).alloc _
  have hs3 : w3.heap.size = w.heap.size + 2 := by rw [hw3]; simp
  have b1 : w3.heap[w.heap.size]? = some (.cells #[.slice none 0 0] 26 (0, 0)) := by
    rw [hw3, Below.heap_alloc _ _ _ (by simp)]
    exact heap_alloc_new w _
  have b2 : w3.heap[w.heap.size + 1]? = some (.cells #[.slice none 0 0] 26 (0, 0)) := by
    rw [hw3]
    have := heap_alloc_new (w.alloc (.cells #[.slice none 0 0] 26)) (.cells #[.slice none 0 0] 26)
    simpa using this
  have HF := hide (RowAt.keepF h hK)
  have HW := hide hw3
  have HK := hide hK
  have B1 := hide b1
  have B2 := hide b2
  have HS := hide hs3
  have HD : Hid (shapedB ns = if shapedGo ns [] 1 = [] then [⟨[110], 1, false⟩] else shapedGo ns [] 1) := rfl
  generalize shapedB ns = D at *
  clear h hw3 hK b1 b2 hs3
  go_enter Tryz.func4, Tryz.ntmps4
  go_wp2
  rw [← unhide HW]
  go_loopw [4, 5] (fun ww i wr => ∃ (k : Nat) (o : Value) (L : List FieldA) (W : Int), k ≤ ns.length ∧ i = .int .i64 k ∧ ww = .int .i64 W ∧ 0 ≤ W ∧ W ≤ 64 ∧ L.length ≤ 8 ∧ Hid (shapedGo ns [] 1 = shapedGo (ns.drop k) L W) ∧ wr.heap[w.heap.size + 1]? = some (.cells #[o] 26 (0, 0)) ∧ wr.ownsRow w3.heap.size 69 3 o L.length (fcs L) ∧ Keeps (fun q => q = w.heap.size + 1) w3 wr) (fun _ i _ => ns.length - (intOf i).toNat)
  case atStart => exact ⟨0, _, [], 1, Nat.zero_le _, rfl, rfl, by omega, by omega, by simp, rfl, unhide B2, by simpa [fcs] using World.ownsRow_nil w3 w3.heap.size 69 3, Keeps.refl _ _⟩
  case round =>
    obtain ⟨k, o, L, W, hk, rfl, rfl, hW0, hW64, hL8, HG, hbo, hown, hkp⟩ := hrel
    obtain ⟨oo, oc, rfl⟩ := (rowAt_own hown).form
    have HBo := hide hbo
    have HO := hide hown
    have HP := hide hkp
    have p2 : wr.cell? ⟨w.heap.size + 1, 0, none⟩ = some (.slice oo L.length oc) := by rw [cell_of_blk hbo]; rfl
    have f2 := frozen_of_blk hbo 0
    have z2 := lt_of_block hbo
    have s3 : w3.heap.size ≤ wr.heap.size := hkp.size
    have hs3 : w3.heap.size = w.heap.size + 2 := unhide HS
    have z0 : w.heap.size < wr.heap.size := by omega
    by_cases hgo : k < ns.length ∧ L.length < 8
    · obtain ⟨hlt, hl7⟩ := hgo
      obtain ⟨n, hn⟩ : ∃ n, ns[k]? = some n := ⟨_, List.getElem?_eq_getElem hlt⟩
      obtain ⟨b, off, cc, e1, hbl, hc⟩ := RowAt.cells (unhide HF) (by omega)
      simp at e1
      obtain ⟨rfl, rfl⟩ := e1
      have hcb := hc k (.int .i64 n) (by simp [hn])
      have hbne : b ≠ w.heap.size + 1 := by
        rintro rfl
        rw [cell_of_blk (unhide B2)] at hcb
        match h : off + k with
        | 0 => rw [h] at hcb; simp at hcb
        | m + 1 => rw [h] at hcb; simp at hcb
      have c0 := (hkp.cell hbl (by show ¬ _ = _; omega)).trans hcb
      have i1 : (k : Int) < (ns.length : Int) := by omega
      have i2 : (L.length : Int) < 8 := by omega
      have HDR : Hid (ns.drop k = n :: ns.drop (k + 1)) := drop_at hn
      have HN := hide (ownsRow_ne hown hbo (by decide))
      have HM := hide (mod_v n wr)
      obtain ⟨K, HKK⟩ : ∃ K, Hid (n % 6 = K) := ⟨_, rfl⟩
      rw [unhide HKK] at HM
      have hK0 : 0 ≤ K := by rw [← unhide HKK]; omega
      have hK5 : K ≤ 5 := by rw [← unhide HKK]; omega
      obtain ⟨c8, HC8⟩ : ∃ c8, Hid (UInt8.ofNat (97 + L.length) = c8) := ⟨_, rfl⟩
      have HNUM : Hid (num c8 = 97 + (L.length : Int)) := by show _ = _; rw [← unhide HC8, num_of _ (by omega)]; omega
      clear hc hn hbo hown hkp hcb hs3
      go_wp2_with fail
      refine (unhide HM).mono ?_
      rintro e w4 ⟨rfl, rfl⟩
      have hconv : (convert 30 9 (.slice (some ⟨w4.heap.size, 0, none⟩) 2 2)).run Tryz.prog (w4.alloc (.cells #[.int .u8 102, .int .u8 (97 + (L.length : Int))] 5)) = .ok (str [102, c8]) (w4.alloc (.cells #[.int .u8 102, .int .u8 (97 + (L.length : Int))] 5)) := by
        refine conv_at _ w4.heap.size 0 2 [102, c8] (fun j c hj => ?_)
        rw [cell_of_blk (heap_alloc_new w4 _)]
        match j with
        | 0 => simp at hj; subst hj; rfl
        | 1 => simp at hj; subst hj; rw [unhide HNUM]; rfl
        | j + 2 => simp at hj
      have hT : K.tmod 3 = 0 ∨ K.tmod 3 = 1 ∨ K.tmod 3 = 2 := by
        rw [Int.tmod_eq_emod_of_nonneg hK0]
        omega
      have HT3 : Hid (K.tmod 3 = K % 3) := Int.tmod_eq_emod_of_nonneg hK0
      have HSF : Hid (shapeF n L.length = ⟨[102, c8], 1 + K % 3, decide (3 ≤ K)⟩) := by show _ = _; unfold shapeF; rw [unhide HC8, unhide HKK]
      have HST : Hid (shapedGo (ns.drop k) L W = if W + wideB (1 + K % 3) ≤ 64 then shapedGo (ns.drop (k + 1)) (L ++ [⟨[102, c8], 1 + K % 3, decide (3 ≤ K)⟩]) (W + wideB (1 + K % 3)) else shapedGo (ns.drop (k + 1)) L W) := by
        show _ = _
        rw [unhide HDR, shapedGo, if_neg (by omega), unhide HSF]
      clear HM
      rcases hT with hT | hT | hT
      · rw [← unhide HT3, hT, show (1 : Int) + 0 = 1 from rfl, show wideB 1 = 10 from rfl] at HST
        by_cases hw : W + 10 ≤ 64
        · rw [if_pos hw] at HST
          go_wp2_with (at_builtin; refine wpList_append_lies _ rfl _ _ _ rfl w3.heap.size 69 i0 _ 3 32 Tryz.underlying24 hi hz0 hz1 hz2 rfl (by omega) (.slice oo L.length oc) L.length (fcs L) rfl ((((unhide HO).alloc _).alloc _).alloc _) ⟨w4.heap.size + 1 + 1, 0, none⟩ 1 1 [str [102, c8], .int .i64 1, .bool (decide (3 ≤ K))] rfl rfl (World.news_of_block (cs := #[str [102, c8], .int .i64 1, .bool (decide (3 ≤ K))]) (t := 69) (fr := (0, 0)) (new3 w4 _ _ _)) (by simp [Value.oneCell']) (by omega) (by unfold maxLen; omega) (by omega) (by simp; omega) (w4.heap.size + 1 + 1 + 1) (by simp) ?_; intro g cap' w6 hown1 hgrow hat hlt1; have hb6 := (hgrow.block (w.heap.size + 1) (by simp; omega) (Ne.symm (unhide HN))).trans (old3 w4 _ _ _ z2 (unhide HBo)); have p6 := cell_of_blk hb6 0; have f6 := frozen_of_blk hb6 0; simp at p6; have H6 := hide hb6; clear hb6)
          go_roundw
          case rel =>
            have h1 : w6.ownsRow w3.heap.size 69 3 (.slice (some ⟨g, 0, none⟩) (L.length + 1) cap') (L.length + 1) (fcs (L ++ [⟨[102, c8], 1, decide (3 ≤ K)⟩])) := by rw [fcs_snoc]; exact hown1
            refine ⟨k + 1, .slice (some ⟨g, 0, none⟩) (L.length + 1) cap', L ++ [⟨[102, c8], 1, decide (3 ≤ K)⟩], W + 10, by omega, by go_num, by go_num, by omega, hw, by simp; omega, (unhide HG).trans (unhide HST), ?_, ?_, ?_⟩
            · rw [heap_setCell_at (unhide H6)]; rfl
            · rw [List.length_append]
              exact ownsRow_kept (F := fun q => q = w.heap.size + 1) h1 (keeps_set w6 _ 0 _) (fun q e e2 => by subst e2; exact ownsRow_ne h1 (unhide H6) (by decide) e)
            · exact (((((unhide HP).alloc _).alloc _).alloc _).grown hgrow (fun q e hq => by have := ((unhide HO).lt q e).1; omega)).setCell (fun _ => rfl) _
          case measure => simp [intOf]; omega
        · rw [if_neg hw] at HST
          go_wp2_with fail
          go_roundw
          case rel =>
            refine ⟨k + 1, .slice oo L.length oc, L, W, by omega, by go_num, rfl, hW0, hW64, hL8, (unhide HG).trans (unhide HST), ?_, ((unhide HO).alloc _).alloc _, ((unhide HP).alloc _).alloc _⟩
            rw [Below.heap_alloc _ _ _ (by simp; omega), Below.heap_alloc _ _ _ z2]
            exact unhide HBo
          case measure => simp [intOf]; omega
      · rw [← unhide HT3, hT, show (1 : Int) + 1 = 2 from rfl, show wideB 2 = 1 from rfl] at HST
        by_cases hw : W + 1 ≤ 64
        · rw [if_pos hw] at HST
          go_wp2_with (at_builtin; refine wpList_append_lies _ rfl _ _ _ rfl w3.heap.size 69 i0 _ 3 32 Tryz.underlying24 hi hz0 hz1 hz2 rfl (by omega) (.slice oo L.length oc) L.length (fcs L) rfl ((((unhide HO).alloc _).alloc _).alloc _) ⟨w4.heap.size + 1 + 1, 0, none⟩ 1 1 [str [102, c8], .int .i64 2, .bool (decide (3 ≤ K))] rfl rfl (World.news_of_block (cs := #[str [102, c8], .int .i64 2, .bool (decide (3 ≤ K))]) (t := 69) (fr := (0, 0)) (new3 w4 _ _ _)) (by simp [Value.oneCell']) (by omega) (by unfold maxLen; omega) (by omega) (by simp; omega) (w4.heap.size + 1 + 1 + 1) (by simp) ?_; intro g cap' w6 hown1 hgrow hat hlt1; have hb6 := (hgrow.block (w.heap.size + 1) (by simp; omega) (Ne.symm (unhide HN))).trans (old3 w4 _ _ _ z2 (unhide HBo)); have p6 := cell_of_blk hb6 0; have f6 := frozen_of_blk hb6 0; simp at p6; have H6 := hide hb6; clear hb6)
          go_roundw
          case rel =>
            have h1 : w6.ownsRow w3.heap.size 69 3 (.slice (some ⟨g, 0, none⟩) (L.length + 1) cap') (L.length + 1) (fcs (L ++ [⟨[102, c8], 2, decide (3 ≤ K)⟩])) := by rw [fcs_snoc]; exact hown1
            refine ⟨k + 1, .slice (some ⟨g, 0, none⟩) (L.length + 1) cap', L ++ [⟨[102, c8], 2, decide (3 ≤ K)⟩], W + 1, by omega, by go_num, by go_num, by omega, hw, by simp; omega, (unhide HG).trans (unhide HST), ?_, ?_, ?_⟩
            · rw [heap_setCell_at (unhide H6)]; rfl
            · rw [List.length_append]
              exact ownsRow_kept (F := fun q => q = w.heap.size + 1) h1 (keeps_set w6 _ 0 _) (fun q e e2 => by subst e2; exact ownsRow_ne h1 (unhide H6) (by decide) e)
            · exact (((((unhide HP).alloc _).alloc _).alloc _).grown hgrow (fun q e hq => by have := ((unhide HO).lt q e).1; omega)).setCell (fun _ => rfl) _
          case measure => simp [intOf]; omega
        · rw [if_neg hw] at HST
          go_wp2_with fail
          go_roundw
          case rel =>
            refine ⟨k + 1, .slice oo L.length oc, L, W, by omega, by go_num, rfl, hW0, hW64, hL8, (unhide HG).trans (unhide HST), ?_, ((unhide HO).alloc _).alloc _, ((unhide HP).alloc _).alloc _⟩
            rw [Below.heap_alloc _ _ _ (by simp; omega), Below.heap_alloc _ _ _ z2]
            exact unhide HBo
          case measure => simp [intOf]; omega
      · rw [← unhide HT3, hT, show (1 : Int) + 2 = 3 from rfl, show wideB 3 = 21 from rfl] at HST
        by_cases hw : W + 21 ≤ 64
        · rw [if_pos hw] at HST
          go_wp2_with (at_builtin; refine wpList_append_lies _ rfl _ _ _ rfl w3.heap.size 69 i0 _ 3 32 Tryz.underlying24 hi hz0 hz1 hz2 rfl (by omega) (.slice oo L.length oc) L.length (fcs L) rfl ((((unhide HO).alloc _).alloc _).alloc _) ⟨w4.heap.size + 1 + 1, 0, none⟩ 1 1 [str [102, c8], .int .i64 3, .bool (decide (3 ≤ K))] rfl rfl (World.news_of_block (cs := #[str [102, c8], .int .i64 3, .bool (decide (3 ≤ K))]) (t := 69) (fr := (0, 0)) (new3 w4 _ _ _)) (by simp [Value.oneCell']) (by omega) (by unfold maxLen; omega) (by omega) (by simp; omega) (w4.heap.size + 1 + 1 + 1) (by simp) ?_; intro g cap' w6 hown1 hgrow hat hlt1; have hb6 := (hgrow.block (w.heap.size + 1) (by simp; omega) (Ne.symm (unhide HN))).trans (old3 w4 _ _ _ z2 (unhide HBo)); have p6 := cell_of_blk hb6 0; have f6 := frozen_of_blk hb6 0; simp at p6; have H6 := hide hb6; clear hb6)
          go_roundw
          case rel =>
            have h1 : w6.ownsRow w3.heap.size 69 3 (.slice (some ⟨g, 0, none⟩) (L.length + 1) cap') (L.length + 1) (fcs (L ++ [⟨[102, c8], 3, decide (3 ≤ K)⟩])) := by rw [fcs_snoc]; exact hown1
            refine ⟨k + 1, .slice (some ⟨g, 0, none⟩) (L.length + 1) cap', L ++ [⟨[102, c8], 3, decide (3 ≤ K)⟩], W + 21, by omega, by go_num, by go_num, by omega, hw, by simp; omega, (unhide HG).trans (unhide HST), ?_, ?_, ?_⟩
            · rw [heap_setCell_at (unhide H6)]; rfl
            · rw [List.length_append]
              exact ownsRow_kept (F := fun q => q = w.heap.size + 1) h1 (keeps_set w6 _ 0 _) (fun q e e2 => by subst e2; exact ownsRow_ne h1 (unhide H6) (by decide) e)
            · exact (((((unhide HP).alloc _).alloc _).alloc _).grown hgrow (fun q e hq => by have := ((unhide HO).lt q e).1; omega)).setCell (fun _ => rfl) _
          case measure => simp [intOf]; omega
        · rw [if_neg hw] at HST
          go_wp2_with fail
          go_roundw
          case rel =>
            refine ⟨k + 1, .slice oo L.length oc, L, W, by omega, by go_num, rfl, hW0, hW64, hL8, (unhide HG).trans (unhide HST), ?_, ((unhide HO).alloc _).alloc _, ((unhide HP).alloc _).alloc _⟩
            rw [Below.heap_alloc _ _ _ (by simp; omega), Below.heap_alloc _ _ _ z2]
            exact unhide HBo
          case measure => simp [intOf]; omega
    · have HSL : Hid (shapedGo ns [] 1 = L) := by
        show _ = _
        rw [unhide HG]
        by_cases h8 : 8 ≤ L.length
        · exact shapedGo_full h8
        · rw [List.drop_eq_nil_of_le (by omega)]
          rfl
      have hgo' : (ns.length : Int) ≤ (k : Int) ∨ ((k : Int) < (ns.length : Int) ∧ (8 : Int) ≤ (L.length : Int)) := by omega
      have hb1 : wr.heap[w.heap.size]? = some (.cells #[.slice none 0 0] 26 (0, 0)) := by rw [hkp.block _ (lt_of_block (unhide B1)) (by show ¬ _ = _; omega)]; exact unhide B1
      have p1 : wr.cell? ⟨w.heap.size, 0, none⟩ = some (.slice none 0 0) := by rw [cell_of_blk hb1]; rfl
      have f1 := frozen_of_blk hb1 0
      have H1 := hide hb1
      have HN1 := hide (ownsRow_ne hown hb1 (by decide))
      have HN := hide (ownsRow_ne hown hbo (by decide))
      rw [unhide HSL] at HD
      clear hb1 hown hkp hbo hgo hs3
      cases L with
      | nil =>
        have HDD : Hid (D = [⟨[110], 1, false⟩]) := unhide HD
        have hgo2 : (ns.length : Int) ≤ (k : Int) := by simp at hgo'; omega
        clear hgo'
        simp only [List.length_nil] at *
        go_wp2_with (at_builtin; refine wpList_append_lies _ rfl _ _ _ rfl w3.heap.size 69 i0 _ 3 32 Tryz.underlying24 hi hz0 hz1 hz2 rfl (by omega) (.slice oo 0 oc) 0 (fcs []) rfl ((unhide HO).alloc _) ⟨wr.heap.size, 0, none⟩ 1 1 [str [110], .int .i64 1, .bool false] rfl rfl (World.news_of_block (cs := #[str [110], .int .i64 1, .bool false]) (t := 69) (fr := (0, 0)) (heap_alloc_new wr _)) (by simp [Value.oneCell']) (by omega) (by unfold maxLen; omega) (by omega) (by simp; omega) (wr.heap.size + 1) (by simp) ?_; intro g cap' w6 hown1 hgrow hat hlt1; have hb6 := (hgrow.block (w.heap.size + 1) (by simp; omega) (Ne.symm (unhide HN))).trans ((Below.heap_alloc _ _ _ z2).trans (unhide HBo)); have p6 := cell_of_blk hb6 0; have f6 := frozen_of_blk hb6 0; have hb7 := (hgrow.block w.heap.size (by simp; omega) (Ne.symm (unhide HN1))).trans ((Below.heap_alloc _ _ _ z0).trans (unhide H1)); have p7 := cell_of_blk hb7 0; have f7 := frozen_of_blk hb7 0; simp at p6 p7; have H6 := hide hb6; have H7 := hide hb7; clear hb6 hb7)
        have h1 : w6.ownsRow w3.heap.size 69 3 (.slice (some ⟨g, 0, none⟩) 1 cap') 1 (fcs [⟨[110], 1, false⟩]) := hown1
        have hk6 := (keeps_set w6 (w.heap.size + 1) 0 (.slice (some ⟨g, 0, none⟩) 1 cap')).mono (G := fun q => q = w.heap.size + 1 ∨ q = w.heap.size) (fun q _ h => Or.inl h)
        have hk7 := hk6.then (keeps_set (w6.setCell ⟨w.heap.size + 1, 0, none⟩ (.slice (some ⟨g, 0, none⟩) 1 cap')) w.heap.size 0 (.slice (some ⟨g, 0, none⟩) 1 cap')) (fun q _ h => Or.inr h)
        have hb8 : (w6.setCell ⟨w.heap.size + 1, 0, none⟩ (.slice (some ⟨g, 0, none⟩) 1 cap')).heap[w.heap.size]? = some (.cells #[.slice none 0 0] 26 (0, 0)) := (Below.heap_setCell _ _ _ _ (Nat.ne_of_lt (Nat.lt_succ_self w.heap.size))).trans (unhide H7)
        have hq : ((w6.setCell ⟨w.heap.size + 1, 0, none⟩ (.slice (some ⟨g, 0, none⟩) 1 cap')).setCell ⟨w.heap.size, 0, none⟩ (.slice (some ⟨g, 0, none⟩) 1 cap')).cell? ⟨w.heap.size, 0, none⟩ = some (.slice (some ⟨g, 0, none⟩) 1 cap') := by rw [cell_of_blk (heap_setCell_at hb8 _)]; rfl
        refine bodyPost_ret (v := .agg #[.slice (some ⟨g, 0, none⟩) 1 cap']) (by simp [results, go_sem, hq]) rfl ?_
        refine ⟨_, rfl, ?_, ?_⟩
        · rw [unhide HDD]
          refine ownsRow_lower (ownsRow_kept (F := fun q => q = w.heap.size + 1 ∨ q = w.heap.size) h1 hk7 (fun q e e2 => ?_)) (unhide HK).size
          rcases e2 with rfl | rfl
          · exact ownsRow_ne h1 (unhide H6) (by decide) e
          · exact ownsRow_ne h1 (unhide H7) (by decide) e
        · have hP6 := ((unhide HP).alloc (.cells #[str [110], .int .i64 1, .bool false] 69)).grown hgrow (fun q e hq => by have := ((unhide HO).lt q e).1; omega)
          exact (unhide HK).narrow (F := fun q => q = w.heap.size + 1 ∨ q = w.heap.size) ((hP6.mono (fun q _ h => Or.inl h)).then hk7 (fun q _ h => h)) (fun q h => by omega)
      | cons f0 L0 =>
        have HDD : Hid (D = f0 :: L0) := unhide HD
        have hl0 : (((f0 :: L0).length : Int) == 0) = false := beq_eq_false_iff_ne.2 (by simp; omega)
        generalize f0 :: L0 = L at *
        rcases hgo' with hg | ⟨hg, hg8⟩
        all_goals
          go_wp2_with fail
          have hq : (wr.setCell ⟨w.heap.size, 0, none⟩ (.slice oo L.length oc)).cell? ⟨w.heap.size, 0, none⟩ = some (.slice oo L.length oc) := by rw [cell_of_blk (heap_setCell_at (unhide H1) _)]; rfl
          refine bodyPost_ret (v := .agg #[.slice oo L.length oc]) (by simp [results, go_sem, hq]) rfl ?_
          refine ⟨.slice oo L.length oc, rfl, ?_, ?_⟩
          · rw [unhide HDD]
            exact ownsRow_lower (ownsRow_kept (F := fun q => q = w.heap.size) (unhide HO) (keeps_set wr _ 0 _) (fun q e e2 => unhide HN1 (by rw [← e2]; exact e))) (unhide HK).size
          · exact (unhide HK).narrow (F := fun q => q = w.heap.size + 1 ∨ q = w.heap.size) (((unhide HP).mono (fun q _ h => Or.inl h)).then (keeps_set wr w.heap.size 0 _) (fun q _ h => Or.inr h)) (fun q h => by omega)

end Go.Proofs.YtklkhegeeglfbaaGreatDoor
