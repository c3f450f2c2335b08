import Derived.Test.YtiinohibmcefkaaGreatDoorZzbt
import Derived.Test.YtiinohibmcefkaaGreatDoorZzbd
namespace Go.Proofs.YtiinohibmcefkaaGreatDoor
open Go.RowKit Go.Maps

/-- What Run answers. -/
def runP (S : List FieldA) (l : SL) (h : Bool) (vals : List ValA) : (Bool × List ValA) × Int := chainP S [l] h vals
set_option maxRecDepth 100000 in
set_option maxHeartbeats 2000000 in
theorem mrun_v (Z : Zone) (S : List FieldA) (l : SL) (hsz : l.size ≤ 4294967294) (h : Bool) (vals : List ValA) (sv u pv : Value) (w : World) (up : Nat) (hT : Types w) (hF : Forms w) (hf : FldsAt w sv S) (hu : ValsAt w u vals) (hp : SlS Z w up pv l) :
    Calls Tryz.prog 12 #[.agg #[sv], pv, .agg #[.bool h, u]] w (RowPost w (runP S l h vals)) := by
  obtain ⟨so, sc, rfl⟩ := RowAt.form hf
  obtain ⟨uo, uc, rfl⟩ := RowAt.form hu
  obtain ⟨po, pc, rfl, _⟩ := hp.head
  obtain ⟨X, hX, P⟩ := proC_of w (.slice so S.length sc) h (.slice uo vals.length uc)
  have a := cell_of_blk P.s0 0
  have c := cell_of_blk P.r0 0
  have d := cell_of_blk P.r0 1
  simp at a c d
  obtain ⟨HB, hxb, hxc⟩ := boxed X #[.slice po l.len pc] 28
  have hk := P.kept.trans (unhide HB)
  have hps : PsAt Z (X.alloc (.cells #[.slice po l.len pc] 28)) up (.slice (some ⟨X.heap.size, 0, none⟩) 1 1) [l] := ⟨_, _, rfl, fun _ => ⟨X.heap.size, 0, rfl, hxb, fun i m hm => by
    rcases i with _ | i
    · simp at hm
      subst hm
      exact ⟨_, hxc 0 _ rfl, hp.keepF hk⟩
    · simp at hm⟩⟩
  have HC := hide (chain_v Z S [l] (by simp) (fun m hm => by simp at hm; subst hm; exact hsz) h vals (.slice so S.length sc) (.slice uo vals.length uc) _ _ up (hT.keepF hk) (hF.keepF hk) (hf.keepF hk) (hu.keepF hk) hps)
  have hone : ∀ w2 : World, Keeps (fun _ => False) (X.alloc (.cells #[.slice po l.len pc] 28)) w2 → w2.cell? ⟨w.heap.size + 1 + 1, 0, none⟩ = some (.bool false) ∧ w2.cell? ⟨w.heap.size + 1 + 1, 1, none⟩ = some (.slice none 0 0) ∧ w2.frozen? ⟨w.heap.size + 1 + 1, 0, none⟩ = false ∧ w2.frozen? ⟨w.heap.size + 1 + 1, 1, none⟩ = false := fun w2 hk => by
    have z := (((unhide HB).trans hk).block _ (lt_of_block P.z0) id).trans P.z0
    exact ⟨(cell_of_blk z _).trans rfl, (cell_of_blk z _).trans rfl, frozen_of_blk z 0, frozen_of_blk z 1⟩
  have hset : ∀ (w2 : World) (x y : Value), Keeps (fun _ => False) (X.alloc (.cells #[.slice po l.len pc] 28)) w2 → ((w2.setCell ⟨w.heap.size + 1 + 1, 0, none⟩ x).setCell ⟨w.heap.size + 1 + 1, 1, none⟩ y).cell? ⟨w.heap.size + 1 + 1, 0, none⟩ = some x ∧ ((w2.setCell ⟨w.heap.size + 1 + 1, 0, none⟩ x).setCell ⟨w.heap.size + 1 + 1, 1, none⟩ y).cell? ⟨w.heap.size + 1 + 1, 1, none⟩ = some y ∧ Keeps (fun _ => False) w ((w2.setCell ⟨w.heap.size + 1 + 1, 0, none⟩ x).setCell ⟨w.heap.size + 1 + 1, 1, none⟩ y) ∧ w2.heap[w.heap.size + 1 + 1]? = some (.cells #[.bool false, .slice none 0 0] 31 (0, 0)) := fun w2 x y hk => by
    have z0 := (((unhide HB).trans hk).block _ (lt_of_block P.z0) id).trans P.z0
    have z := set2b z0 x y
    exact ⟨(cell_of_blk z _).trans rfl, (cell_of_blk z _).trans rfl, (P.kept.trans ((unhide HB).trans hk)).narrow (keeps_set2 _ _ _ _) (fun q e => by omega), z0⟩
  have HONE := hide hone
  have HSET := hide hset
  have hsz2 : w.heap.size ≤ (X.alloc (.cells #[.slice po l.len pc] 28)).heap.size := hk.size
  have HSZ := hide hsz2
  unfold runP
  clear hT hF hf hu hp hps hk hxc P hone hset hsz2
  generalize chainP S [l] h vals = R at *
  obtain ⟨⟨rh, rv⟩, rE⟩ := R
  go_enter Tryz.func12, Tryz.ntmps12
  go_wp2_with fail
  refine (unhide HC).mono ?_
  rintro e w1 ⟨ro, rc, rfl, hown, hk1⟩
  obtain ⟨m0, m1, g0, g1⟩ := unhide HONE _ hk1
  obtain ⟨o0, o1, hd, hz⟩ := unhide HSET w1 (.bool rh) (.slice ro rv.length rc) hk1
  have HOW : Hid (((w1.setCell ⟨w.heap.size + 1 + 1, 0, none⟩ (.bool rh)).setCell ⟨w.heap.size + 1 + 1, 1, none⟩ (.slice ro rv.length rc)).ownsRow w.heap.size 41 3 (.slice ro rv.length rc) rv.length (vcs rv)) :=
    ownsRow_kept (own_base (own_zero hown) (fun q e => Nat.le_trans (unhide HSZ) (hown.lt q e).1)) (keeps_set2 w1 _ _ _) (fun q e hq => ownsRow_ne hown hz (by decide) (by rw [e, hq]))
  have HD := hide hd
  clear hd hz hown hk1
  go_wp2_with fail
  refine bodyPost_ret (v := .tuple #[.agg #[.bool rh, .slice ro rv.length rc], .int .i64 rE]) (by simp [results, go_sem, o0, o1]) rfl ?_
  exact ⟨ro, rc, rfl, unhide HOW, unhide HD⟩
end Go.Proofs.YtiinohibmcefkaaGreatDoor
namespace Go.Proofs.YtiinohibmcefkaaGreatDoor
open Go.RowKit Go.Maps

theorem firstBad_app (S : List FieldA) : ∀ (l m : SL) (k : Nat), firstBad S (l.app m) k = if (firstBad S l k).1 ≠ 0 then firstBad S l k else firstBad S m (k + l.len)
  | .nil, m, k => by simp [SL.app, firstBad, SL.len]
  | .cons op f x t e r, m, k => by
    have ih := firstBad_app S r m (k + 1)
    have hc : firstBad S (.cons op f x t e r) k = if ownP S op f x ≠ 0 then (ownP S op f x, k) else firstBad S r (k + 1) := rfl
    show (if ownP S op f x ≠ 0 then (ownP S op f x, k) else firstBad S (r.app m) (k + 1)) = _
    by_cases h : ownP S op f x ≠ 0
    · rw [if_pos h] at hc ⊢
      rw [hc, if_pos h]
    · rw [if_neg h] at hc ⊢
      rw [hc, ih, show (SL.cons op f x t e r).len = r.len + 1 from rfl, show k + 1 + r.len = k + (r.len + 1) by omega]
end Go.Proofs.YtiinohibmcefkaaGreatDoor
