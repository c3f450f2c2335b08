import Derived.Test.YtajklagdjokojaaGreatDoorJk
namespace Go.Proofs.YtajklagdjokojaaGreatDoor
open Go.RowKit Go.Maps

/-- The value at a place, or the empty one. -/
def valAt (vs : List ValA) (k : Nat) : ValA := (vs[k]?).getD zeroVal
/-- The first k values of the record that Fitted makes. -/
def fittedTo (l : List FieldA) (vs : List ValA) : Nat → List ValA
  | 0 => []
  | k + 1 => fittedTo l vs k ++ (match l[k]? with | some f => [fittedB f (valAt vs k)] | none => [])
theorem fittedTo_snoc {l : List FieldA} {vs : List ValA} {k : Nat} {f : FieldA} (h : l[k]? = some f) : fittedTo l vs (k + 1) = fittedTo l vs k ++ [fittedB f (valAt vs k)] := by simp [fittedTo, h]
theorem fittedTo_length (l : List FieldA) (vs : List ValA) : ∀ k, k ≤ l.length → (fittedTo l vs k).length = k
  | 0, _ => rfl
  | k + 1, h => by
    rw [fittedTo_snoc (List.getElem?_eq_getElem (by omega)), List.length_append, fittedTo_length l vs k (by omega)]
    rfl
def FittedB (l : List FieldA) (vs : List ValA) : List ValA := fittedTo l vs l.length

theorem set3_facts {w4 : World} {S : Nat} {z : ValA} (hb : w4.heap[S]? = some (.cells #[.int .i64 0, .int .i64 0, .string ⟨#[]⟩] 50 (0, 0))) :
    Keeps (fun q => q = S) w4 (((w4.setCell ⟨S, 0, none⟩ (.int .i64 z.kind)).setCell ⟨S, 1, none⟩ (.int .i64 z.n)).setCell ⟨S, 2, none⟩ (.string ⟨z.s.toArray⟩)) ∧
    (((w4.setCell ⟨S, 0, none⟩ (.int .i64 z.kind)).setCell ⟨S, 1, none⟩ (.int .i64 z.n)).setCell ⟨S, 2, none⟩ (.string ⟨z.s.toArray⟩)).cell? ⟨S, 0, none⟩ = some (.int .i64 z.kind) ∧
    (((w4.setCell ⟨S, 0, none⟩ (.int .i64 z.kind)).setCell ⟨S, 1, none⟩ (.int .i64 z.n)).setCell ⟨S, 2, none⟩ (.string ⟨z.s.toArray⟩)).cell? ⟨S, 1, none⟩ = some (.int .i64 z.n) ∧
    (((w4.setCell ⟨S, 0, none⟩ (.int .i64 z.kind)).setCell ⟨S, 1, none⟩ (.int .i64 z.n)).setCell ⟨S, 2, none⟩ (.string ⟨z.s.toArray⟩)).cell? ⟨S, 2, none⟩ = some (str z.s) := by
  have hb3 := heap_setCell_at (o := 2) (heap_setCell_at (o := 1) (heap_setCell_at (o := 0) hb (.int .i64 z.kind)) (.int .i64 z.n)) (.string ⟨z.s.toArray⟩)
  have hs : ∀ (a : World) (o : Nat) (v : Value), Keeps (fun q => q = S) w4 a → Keeps (fun q => q = S) w4 (a.setCell ⟨S, o, none⟩ v) := fun a o v h => h.setCell (fun _ => rfl) v
  refine ⟨hs _ 2 _ (hs _ 1 _ (hs _ 0 _ (Keeps.refl _ w4))), ?_, ?_, ?_⟩
  · rw [cell_of_blk hb3]; rfl
  · rw [cell_of_blk hb3]; rfl
  · rw [cell_of_blk hb3]; rfl

set_option maxRecDepth 100000 in
set_option maxHeartbeats 4000000 in
theorem Fitted_v (l : List FieldA) (v : Value) (vs : List ValA) (u : Value) (w : World) (h : FldsAt w v l) (hr : ValsAt w u vs) (hl : l.length ≤ 8) (hvl : vs.length ≤ 140737488355328) :
    Calls Tryz.prog 7 #[.agg #[v], u] w fun e w' => ∃ v', e = .returned v' ∧ w'.ownsRow w.heap.size 50 3 v' l.length (vcs (FittedB l vs)) ∧ Keeps (fun _ => False) w w' := by
  obtain ⟨i0, hi, hz0, hz1, hz2⟩ := info_parts Tryz.info50
  obtain ⟨ao, cap, rfl⟩ := RowAt.form h
  obtain ⟨bo, cbp, rfl⟩ := RowAt.form hr
  obtain ⟨HB, hb, hbc⟩ := boxed w #[.slice ao l.length cap] 26
  have hp := hbc 0 (.slice ao l.length cap) rfl
  have HF := hide (h.keepF (unhide HB))
  have HV := hide (hr.keepF (unhide HB))
  have HZ : Hid (FittedB l vs = fittedTo l vs l.length) := rfl
  generalize FittedB l vs = Z at *
  clear hbc h hr
  go_enter Tryz.func7, Tryz.ntmps7
  go_wp2_with fail
  have hw2 : w.heap.size ≤ (w.alloc (.cells #[.slice ao l.length cap] 26)).heap.size := by simp
  generalize w.alloc (.cells #[.slice ao l.length cap] 26) = w2 at *
  go_loopw [5, 6] (fun o i wr => ∃ k : Nat, k ≤ l.length ∧ i = .int .i64 k ∧ wr.ownsRow w2.heap.size 50 3 o k (vcs (fittedTo l vs k)) ∧ Keeps (fun _ => False) w2 wr) (fun _ i _ => l.length - (intOf i).toNat)
  case atStart => exact ⟨0, Nat.zero_le _, rfl, by simpa [vcs, fittedTo] using World.ownsRow_nil w2 w2.heap.size 50 3, Keeps.refl _ _⟩
  case round =>
    obtain ⟨k, hk, rfl, hown, hkp⟩ := hrel
    have HO := hide hown
    have HK := hide hkp
    have p0 := (hkp.cell (o := 0) hb id).trans hp
    by_cases hlt : k < l.length
    · obtain ⟨b, off, c, e1, hblt, hc⟩ := (unhide HF).cells (by omega)
      simp at e1
      obtain ⟨rfl, rfl⟩ := e1
      obtain ⟨f, hf⟩ : ∃ f, l[k]? = some f := ⟨_, List.getElem?_eq_getElem hlt⟩
      have i1 : (k : Int) < (l.length : Int) := by omega
      have i0' : (0 : Int) ≤ (k : Int) := by omega
      have HS := hide (fittedTo_snoc (vs := vs) hf)
      obtain ⟨x, HXV⟩ : ∃ x, Hid (valAt vs k = x) := ⟨_, rfl⟩
      rw [unhide HXV] at HS
      have hcx : (∃ b' off' cc, (Value.slice bo vs.length cbp) = .slice (some ⟨b', off', none⟩) vs.length cc ∧ (k : Int) < (vs.length : Int) ∧ wr.cell? ⟨b', off' + k * 3, none⟩ = some (.int .i64 x.kind) ∧ wr.cell? ⟨b', off' + k * 3 + 1, none⟩ = some (.int .i64 x.n) ∧ wr.cell? ⟨b', off' + k * 3 + 2, none⟩ = some (str x.s) ∧ b' < wr.heap.size) ∨ ((vs.length : Int) ≤ (k : Int) ∧ x = ⟨0, 0, []⟩) := by
        cases hx : vs[k]? with
        | none =>
          right
          have := get_ge hx
          refine ⟨by omega, ?_⟩
          rw [← unhide HXV]
          simp [valAt, hx, zeroVal]
        | some y =>
          left
          have hyx : y = x := by rw [← unhide HXV]; simp [valAt, hx]
          subst hyx
          have := get_lt hx
          obtain ⟨b', off', cc, e', hbl', hc'⟩ := (unhide HV).cells (by omega)
          exact ⟨b', off', cc, e', by omega, (hkp.cell hbl' id).trans (hc' k y hx).1, (hkp.cell hbl' id).trans (hc' k y hx).2.1, (hkp.cell hbl' id).trans (hc' k y hx).2.2, Nat.lt_of_lt_of_le hbl' hkp.size⟩
      obtain ⟨HX, hxb, hxc⟩ := boxed wr #[.int .i64 x.kind, .int .i64 x.n, str x.s] 50
      have K0 := hkp.trans (unhide HX)
      have K1 := K0.alloc (.cells #[.int .i64 0, .int .i64 0, .string ⟨#[]⟩] 50)
      have A1 : Keeps (fun _ => False) (wr.alloc (.cells #[.int .i64 x.kind, .int .i64 x.n, str x.s] 50)) ((wr.alloc (.cells #[.int .i64 x.kind, .int .i64 x.n, str x.s] 50)).alloc (.cells #[.int .i64 0, .int .i64 0, .string ⟨#[]⟩] 50)) := (Keeps.refl _ _).alloc _
      have c0 := (K1.cell hblt id).trans (hc k f hf).1
      have c1 := (K1.cell hblt id).trans (hc k f hf).2.1
      have c2 := (K1.cell hblt id).trans (hc k f hf).2.2
      have C0 := (K0.cell hblt id).trans (hc k f hf).1
      have C1 := (K0.cell hblt id).trans (hc k f hf).2.1
      have C2 := (K0.cell hblt id).trans (hc k f hf).2.2
      have X0 := hxc 0 _ rfl
      have X1 := hxc 1 _ rfl
      have X2 := hxc 2 _ rfl
      have x0 := (A1.cell hxb id).trans X0
      have x1 := (A1.cell hxb id).trans X1
      have x2 := (A1.cell hxb id).trans X2
      have hP := (K0.cell (o := 0) hb id).trans hp
      have hp' := (K1.cell (o := 0) hb id).trans hp
      have HQ := hide (fitted_v f x ((wr.alloc (.cells #[.int .i64 x.kind, .int .i64 x.n, str x.s] 50)).alloc (.cells #[.int .i64 0, .int .i64 0, .string ⟨#[]⟩] 50)).drew)
      have HQb := hide (fitted_v f x (wr.alloc (.cells #[.int .i64 x.kind, .int .i64 x.n, str x.s] 50)).drew)
      have z0 : w.heap.size < (((wr.alloc (.cells #[.int .i64 x.kind, .int .i64 x.n, str x.s] 50)).alloc (.cells #[.int .i64 0, .int .i64 0, .string ⟨#[]⟩] 50)).drewN 1).heap.size := Nat.lt_of_lt_of_le hb K1.size
      have z1 : b < (((wr.alloc (.cells #[.int .i64 x.kind, .int .i64 x.n, str x.s] 50)).alloc (.cells #[.int .i64 0, .int .i64 0, .string ⟨#[]⟩] 50)).drewN 1).heap.size := Nat.lt_of_lt_of_le hblt K1.size
      have z2 : wr.heap.size < (((wr.alloc (.cells #[.int .i64 x.kind, .int .i64 x.n, str x.s] 50)).alloc (.cells #[.int .i64 0, .int .i64 0, .string ⟨#[]⟩] 50)).drewN 1).heap.size := Nat.lt_of_lt_of_le hxb A1.size
      have z3 : wr.heap.size + 1 < (((wr.alloc (.cells #[.int .i64 x.kind, .int .i64 x.n, str x.s] 50)).alloc (.cells #[.int .i64 0, .int .i64 0, .string ⟨#[]⟩] 50)).drewN 1).heap.size := by
        show _ < ((wr.alloc _).alloc _).heap.size
        simp
      have HN8 : Hid ((((wr.alloc (.cells #[.int .i64 x.kind, .int .i64 x.n, str x.s] 50)).alloc (.cells #[.int .i64 0, .int .i64 0, .string ⟨#[]⟩] 50)).drewN 1).heap[wr.heap.size + 1]? = some (.cells #[.int .i64 0, .int .i64 0, .string ⟨#[]⟩] 50 (0, 0))) := by
        have q := heap_alloc_new (wr.alloc (.cells #[.int .i64 x.kind, .int .i64 x.n, str x.s] 50)) (.cells #[.int .i64 0, .int .i64 0, .string ⟨#[]⟩] 50)
        rw [World.size_alloc] at q
        exact q
      have n1 : ¬ w.heap.size = wr.heap.size + 1 := by have := (unhide HK).size; omega
      have n2 : ¬ b = wr.heap.size + 1 := by have := (unhide HK).size; omega
      have n3 : ¬ wr.heap.size + 1 = w.heap.size := fun e => n1 e.symm
      have n4 : ¬ wr.heap.size + 1 = b := fun e => n2 e.symm
      have HK1 := hide (K1.drewN 1)
      have HK0 := hide (K0.drewN 1)
      have y0 : w.heap.size < (wr.alloc (.cells #[.int .i64 x.kind, .int .i64 x.n, str x.s] 50)).drew.heap.size := Nat.lt_of_lt_of_le hb K0.size
      have y1 : b < (wr.alloc (.cells #[.int .i64 x.kind, .int .i64 x.n, str x.s] 50)).drew.heap.size := Nat.lt_of_lt_of_le hblt K0.size
      have y2 : wr.heap.size < (wr.alloc (.cells #[.int .i64 x.kind, .int .i64 x.n, str x.s] 50)).drew.heap.size := hxb
      have HO0 : Hid ((wr.alloc (.cells #[.int .i64 x.kind, .int .i64 x.n, str x.s] 50)).drew.ownsRow w2.heap.size 50 3 u5 k (vcs (fittedTo l vs k))) := (unhide HO).alloc _
      have HO1 : Hid ((((wr.alloc (.cells #[.int .i64 x.kind, .int .i64 x.n, str x.s] 50)).alloc (.cells #[.int .i64 0, .int .i64 0, .string ⟨#[]⟩] 50)).drewN 1).ownsRow w2.heap.size 50 3 u5 k (vcs (fittedTo l vs k))) := ((unhide HO).alloc _).alloc _
      generalize fittedB f x = z at *
      clear hkp hc hf hxc K1 K0 A1 hown
      unfold FieldA.v ValA.v at HQ HQb
      rcases hcx with ⟨b', off', cc, e', i3, d0, d1, d2, hb'⟩ | ⟨i3, hx0⟩
      case inl =>
        simp only [Value.slice.injEq] at e'
        obtain ⟨rfl, _, rfl⟩ := e'
        go_wp2_with fail
        go_region_held3 (fun w' => w'.cell? ⟨w.heap.size, 0, none⟩ = some (.slice (some ⟨b, off, none⟩) l.length cap) ∧ w'.cell? ⟨b, off + k * 3, none⟩ = some (str f.name) ∧ w'.cell? ⟨b, off + k * 3 + 1, none⟩ = some (.int .i64 f.type) ∧ w'.cell? ⟨b, off + k * 3 + 2, none⟩ = some (.bool f.opt) ∧ w'.cell? ⟨wr.heap.size, 0, none⟩ = some (.int .i64 x.kind) ∧ w'.cell? ⟨wr.heap.size, 1, none⟩ = some (.int .i64 x.n) ∧ w'.cell? ⟨wr.heap.size, 2, none⟩ = some (str x.s))
          (go_keep)
          (first
            | (go_at_call 37
               with_reducible refine (unhide HQ).mono ?_
               rintro e w4 ⟨rfl, hk4⟩
               have q0 := (hk4.cell (o := 0) z0 id).trans hp'
               have q1 := (hk4.cell z1 id).trans c0
               have q2 := (hk4.cell z1 id).trans c1
               have q3 := (hk4.cell z1 id).trans c2
               have q4 := (hk4.cell z2 id).trans x0
               have q5 := (hk4.cell z2 id).trans x1
               have q6 := (hk4.cell z2 id).trans x2
               have hblk := (hk4.block _ z3 id).trans (unhide HN8)
               have d8 := cell_of_blk hblk 0
               have d9 := cell_of_blk hblk 1
               have d10 := cell_of_blk hblk 2
               have f8 := frozen_of_blk hblk 0
               have f9 := frozen_of_blk hblk 1
               have f10 := frozen_of_blk hblk 2
               have HB8 := hide hblk
               clear hblk
               have HO4 := hide (ownsRow_kept (unhide HO1) hk4 (fun _ _ => id))
               have K4 := hide ((unhide HK1).trans hk4)
               clear hk4)
            | (go_at_call 37
               with_reducible refine (unhide HQb).mono ?_
               rintro e w4 ⟨rfl, hk4⟩
               have q0 := (hk4.cell (o := 0) y0 id).trans hP
               have q1 := (hk4.cell y1 id).trans C0
               have q2 := (hk4.cell y1 id).trans C1
               have q3 := (hk4.cell y1 id).trans C2
               have q4 := (hk4.cell y2 id).trans X0
               have q5 := (hk4.cell y2 id).trans X1
               have q6 := (hk4.cell y2 id).trans X2
               have HO4 := hide (ownsRow_kept (unhide HO0) hk4 (fun _ _ => id))
               have K4 := hide ((unhide HK0).trans hk4)
               have markb : True := trivial
               clear hk4))
        all_goals
          first
          | (clear markb
             obtain ⟨HB5, hb5, hbc5⟩ := boxed w4 #[.int .i64 z.kind, .int .i64 z.n, .string ⟨z.s.toArray⟩] 50
             have E0 := hbc5 0 _ rfl
             have E1 := hbc5 1 _ rfl
             have E2 := hbc5 2 _ rfl
             have HO5 := hide ((unhide HO4).alloc (.cells #[.int .i64 z.kind, .int .i64 z.n, .string ⟨z.s.toArray⟩] 50))
             have HK5 := hide ((unhide K4).trans (unhide HB5))
             clear hbc5 hb5 HB5
             generalize w4.alloc (.cells #[.int .i64 z.kind, .int .i64 z.n, .string ⟨z.s.toArray⟩] 50) = w5 at *
             generalize w4.heap.size = P8 at *)
          | (obtain ⟨hks, E0, E1, E2⟩ := set3_facts (z := z) (unhide HB8)
             have HO5 := hide (ownsRow_kept (unhide HO4) hks (fun q e hq => by have := ((unhide HO).lt q e).2; omega))
             have HK5 := hide ((unhide K4).narrowS hks (fun i e => by have := (unhide HK).size; omega))
             clear hks
             generalize ((w4.setCell ⟨wr.heap.size + 1, 0, none⟩ (.int .i64 z.kind)).setCell ⟨wr.heap.size + 1, 1, none⟩ (.int .i64 z.n)).setCell ⟨wr.heap.size + 1, 2, none⟩ (.string ⟨z.s.toArray⟩) = w5 at *)
          have s5 : w2.heap.size ≤ w5.heap.size := (unhide HK5).size
          clear q0 q1 q2 q3 q4 q5 q6 HO4 K4 HQ HQb
          go_wp2_with (at_builtin; refine wpList_append_lies _ rfl _ _ _ rfl w2.heap.size 50 i0 _ 3 32 Tryz.underlying23 hi hz0 hz1 hz2 rfl (by omega) u5 k (vcs (fittedTo l vs k)) rfl ((unhide HO5).alloc _) ⟨w5.heap.size, 0, none⟩ 1 1 z.cs rfl rfl (World.news_of_block (cs := #[.int .i64 z.kind, .int .i64 z.n, str z.s]) (t := 50) (fr := (0, 0)) (heap_alloc_new w5 _)) (by simp [Value.oneCell', ValA.cs]) (by omega) (by unfold maxLen; omega) (by omega) (by simp; omega) (w5.heap.size + 1) (by simp) ?_; intro g cap' w6 hown1 hgrow hat hlt1)
          go_roundw
          case rel =>
            refine ⟨k + 1, by omega, by go_num, ?_, ((unhide HK5).alloc _).grown hgrow (fun q e hq => by have := ((unhide HO5).lt q e).1; omega)⟩
            rw [unhide HS, vcs_snoc]
            exact hown1
          case measure => simp [intOf]; omega
      case inr =>
        have e0 : x.kind = 0 := by rw [hx0]
        have e1 : x.n = 0 := by rw [hx0]
        have e2 : x.s = [] := by rw [hx0]
        obtain ⟨xk, xn, xs⟩ := x
        simp only at e0 e1 e2
        subst e0 e1 e2
        clear hx0
        simp only at *
        go_wp2_with fail
        go_region_held3 (fun w' => w'.cell? ⟨w.heap.size, 0, none⟩ = some (.slice (some ⟨b, off, none⟩) l.length cap) ∧ w'.cell? ⟨b, off + k * 3, none⟩ = some (str f.name) ∧ w'.cell? ⟨b, off + k * 3 + 1, none⟩ = some (.int .i64 f.type) ∧ w'.cell? ⟨b, off + k * 3 + 2, none⟩ = some (.bool f.opt) ∧ w'.cell? ⟨wr.heap.size, 0, none⟩ = some (.int .i64 0) ∧ w'.cell? ⟨wr.heap.size, 1, none⟩ = some (.int .i64 0) ∧ w'.cell? ⟨wr.heap.size, 2, none⟩ = some (str []))
          (go_keep)
          (first
            | (go_at_call 37
               with_reducible refine (unhide HQ).mono ?_
               rintro e w4 ⟨rfl, hk4⟩
               have q0 := (hk4.cell (o := 0) z0 id).trans hp'
               have q1 := (hk4.cell z1 id).trans c0
               have q2 := (hk4.cell z1 id).trans c1
               have q3 := (hk4.cell z1 id).trans c2
               have q4 := (hk4.cell z2 id).trans x0
               have q5 := (hk4.cell z2 id).trans x1
               have q6 := (hk4.cell z2 id).trans x2
               have hblk := (hk4.block _ z3 id).trans (unhide HN8)
               have d8 := cell_of_blk hblk 0
               have d9 := cell_of_blk hblk 1
               have d10 := cell_of_blk hblk 2
               have f8 := frozen_of_blk hblk 0
               have f9 := frozen_of_blk hblk 1
               have f10 := frozen_of_blk hblk 2
               have HB8 := hide hblk
               clear hblk
               have HO4 := hide (ownsRow_kept (unhide HO1) hk4 (fun _ _ => id))
               have K4 := hide ((unhide HK1).trans hk4)
               clear hk4)
            | (go_at_call 37
               with_reducible refine (unhide HQb).mono ?_
               rintro e w4 ⟨rfl, hk4⟩
               have q0 := (hk4.cell (o := 0) y0 id).trans hP
               have q1 := (hk4.cell y1 id).trans C0
               have q2 := (hk4.cell y1 id).trans C1
               have q3 := (hk4.cell y1 id).trans C2
               have q4 := (hk4.cell y2 id).trans X0
               have q5 := (hk4.cell y2 id).trans X1
               have q6 := (hk4.cell y2 id).trans X2
               have HO4 := hide (ownsRow_kept (unhide HO0) hk4 (fun _ _ => id))
               have K4 := hide ((unhide HK0).trans hk4)
               have markb : True := trivial
               clear hk4))
        all_goals
          first
          | (clear markb
             obtain ⟨HB5, hb5, hbc5⟩ := boxed w4 #[.int .i64 z.kind, .int .i64 z.n, .string ⟨z.s.toArray⟩] 50
             have E0 := hbc5 0 _ rfl
             have E1 := hbc5 1 _ rfl
             have E2 := hbc5 2 _ rfl
             have HO5 := hide ((unhide HO4).alloc (.cells #[.int .i64 z.kind, .int .i64 z.n, .string ⟨z.s.toArray⟩] 50))
             have HK5 := hide ((unhide K4).trans (unhide HB5))
             clear hbc5 hb5 HB5
             generalize w4.alloc (.cells #[.int .i64 z.kind, .int .i64 z.n, .string ⟨z.s.toArray⟩] 50) = w5 at *
             generalize w4.heap.size = P8 at *)
          | (obtain ⟨hks, E0, E1, E2⟩ := set3_facts (z := z) (unhide HB8)
             have HO5 := hide (ownsRow_kept (unhide HO4) hks (fun q e hq => by have := ((unhide HO).lt q e).2; omega))
             have HK5 := hide ((unhide K4).narrowS hks (fun i e => by have := (unhide HK).size; omega))
             clear hks
             generalize ((w4.setCell ⟨wr.heap.size + 1, 0, none⟩ (.int .i64 z.kind)).setCell ⟨wr.heap.size + 1, 1, none⟩ (.int .i64 z.n)).setCell ⟨wr.heap.size + 1, 2, none⟩ (.string ⟨z.s.toArray⟩) = w5 at *)
          have s5 : w2.heap.size ≤ w5.heap.size := (unhide HK5).size
          clear q0 q1 q2 q3 q4 q5 q6 HO4 K4 HQ HQb
          go_wp2_with (at_builtin; refine wpList_append_lies _ rfl _ _ _ rfl w2.heap.size 50 i0 _ 3 32 Tryz.underlying23 hi hz0 hz1 hz2 rfl (by omega) u5 k (vcs (fittedTo l vs k)) rfl ((unhide HO5).alloc _) ⟨w5.heap.size, 0, none⟩ 1 1 z.cs rfl rfl (World.news_of_block (cs := #[.int .i64 z.kind, .int .i64 z.n, str z.s]) (t := 50) (fr := (0, 0)) (heap_alloc_new w5 _)) (by simp [Value.oneCell', ValA.cs]) (by omega) (by unfold maxLen; omega) (by omega) (by simp; omega) (w5.heap.size + 1) (by simp) ?_; intro g cap' w6 hown1 hgrow hat hlt1)
          go_roundw
          case rel =>
            refine ⟨k + 1, by omega, by go_num, ?_, ((unhide HK5).alloc _).grown hgrow (fun q e hq => by have := ((unhide HO5).lt q e).1; omega)⟩
            rw [unhide HS, vcs_snoc]
            exact hown1
          case measure => simp [intOf]; omega
    · clear hown hkp
      go_wp2
      go_ret
      obtain rfl : k = l.length := by omega
      refine ⟨_, rfl, ?_, (unhide HB).trans (unhide HK)⟩
      rw [unhide HZ]
      exact ownsRow_lower (unhide HO) hw2

end Go.Proofs.YtajklagdjokojaaGreatDoor
