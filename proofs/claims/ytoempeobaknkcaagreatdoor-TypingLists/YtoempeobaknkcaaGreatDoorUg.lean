import Derived.Test.YtoempeobaknkcaaGreatDoorUf
import Derived.Test.YtoempeobaknkcaaGreatDoorJzah
import Derived.Test.YtoempeobaknkcaaGreatDoorJzan
import Derived.Test.YtoempeobaknkcaaGreatDoorJzaf
namespace Go.Proofs.YtoempeobaknkcaaGreatDoor
open Go.RowKit Go.Maps

/-- What Fields leaves. -/
def FdPost (S : List FieldA) (l : SL) (w : World) (e : Ending) (w' : World) : Prop :=
  ∃ rv wv, e = .returned (.tuple #[rv, wv, .int .i64 (fieldsP S l).2.2]) ∧ NmAt w' w.heap.size rv (fieldsP S l).1 ∧ NmAt w' w.heap.size wv (fieldsP S l).2.1 ∧ Keeps (fun _ => False) w w'
/-- The same, and that the two lists lie apart. -/
def FdPost2 (S : List FieldA) (l : SL) (w : World) (e : Ending) (w' : World) : Prop :=
  ∃ rv wv, e = .returned (.tuple #[rv, wv, .int .i64 (fieldsP S l).2.2]) ∧ NmAt w' w.heap.size rv (fieldsP S l).1 ∧ NmAt w' w.heap.size wv (fieldsP S l).2.1 ∧ (∀ q, rv.ownBlock = some q → wv.ownBlock ≠ some q) ∧ Keeps (fun _ => False) w w'
theorem FdPost2.one {S : List FieldA} {l : SL} {w w' : World} {e : Ending} : FdPost2 S l w e w' → FdPost S l w e w' := by
  rintro ⟨rv, wv, he, h1, h2, _, h3⟩
  exact ⟨rv, wv, he, h1, h2, h3⟩
theorem tfields2_v (Z : Zone) (S : List FieldA) (l : SL) (hsz : l.size ≤ 4294967294) (sv pv : Value) (w : World) (up : Nat) (hT : Types w) (hF : Forms w) (hf : FldsAt w sv S) (hp : SlS Z w up pv l) :
    Calls Tryz.prog 15 #[.agg #[sv], pv] w (FdPost2 S l w) := by
  by_cases hE : (checkP S l).1 = 0
  · refine (tfields_fit Z S l hsz sv pv w up hT hF hf hp hE).mono ?_
    rintro e w' ⟨rv, wv, he, h1, h2, h4, h3⟩
    unfold FdPost2 fieldsP
    rw [if_neg (by simpa using hE)]
    exact ⟨rv, wv, he, h1, h2, h4, h3⟩
  · refine (tfields_bad Z S l hsz sv pv w up hT hF hf hp hE).mono ?_
    rintro e w' ⟨he, h3⟩
    unfold FdPost2 fieldsP
    rw [if_pos hE]
    exact ⟨_, _, he, World.ownsRow_nil _ _ 9 1, World.ownsRow_nil _ _ 9 1, (fun q e => by cases e), h3⟩
theorem tfields_v (Z : Zone) (S : List FieldA) (l : SL) (hsz : l.size ≤ 4294967294) (sv pv : Value) (w : World) (up : Nat) (hT : Types w) (hF : Forms w) (hf : FldsAt w sv S) (hp : SlS Z w up pv l) :
    Calls Tryz.prog 15 #[.agg #[sv], pv] w (FdPost S l w) := (tfields2_v Z S l hsz sv pv w up hT hF hf hp).mono fun _ _ => FdPost2.one
theorem rfields_v (Z : Zone) (S : List FieldA) (l : SL) (hsz : l.size ≤ 4294967294) (sv pv : Value) (w : World) (up : Nat) (hf : FldsAt w sv S) (hp : SlS Z w up pv l) :
    Calls Tryz.prog 8 #[.agg #[sv], pv] w (FdPost S l w) := by
  by_cases hE : (checkP S l).1 = 0
  · refine (rfields_fit Z S l hsz sv pv w up hf hp hE).mono ?_
    rintro e w' ⟨rv, wv, he, h1, h2, h3⟩
    unfold FdPost fieldsP
    rw [if_neg (by simpa using hE)]
    exact ⟨rv, wv, he, h1, h2, h3⟩
  · refine (rfields_bad Z S l hsz sv pv w up hf hp hE).mono ?_
    rintro e w' ⟨he, h3⟩
    unfold FdPost fieldsP
    rw [if_pos hE]
    exact ⟨_, _, he, World.ownsRow_nil _ _ 9 1, World.ownsRow_nil _ _ 9 1, h3⟩

set_option maxRecDepth 100000 in
set_option maxHeartbeats 4000000 in
/-- The law's own call of Fields, on twins. -/
theorem lawFields_v (Z : Zone) (S : List FieldA) (hlS : S.length ≤ 4398046511104) (l : SL) (hsz : l.size ≤ 4294967294) (sv pv : Value) (w : World) (up : Nat) (hT : Types w) (hF : Forms w) (hf : FldsAt w sv S) (hp : SlS Z w up pv l) :
    Calls Tryz.prog 7 #[.agg #[sv], pv] w (FdPost2 S l w) := by
  obtain ⟨ao, cap, rfl, hc⟩ := hp.head
  obtain ⟨so, sc, rfl⟩ := RowAt.form hf
  obtain ⟨HB, hxb, hxc⟩ := boxedT w #[.slice so S.length sc] 24
  have c0 := hxc 0 (.slice so S.length sc) rfl
  have SB : ∀ w', Keeps (fun _ => False) (w.alloc (.cells #[.slice so S.length sc] 24)) w' → w'.cell? ⟨w.heap.size, 0, none⟩ = some (.slice so S.length sc) := fun w' hk => (hk.cell hxb id).trans c0
  have HSB := hide SB
  have HCP := hide (copySchema_big _ (.slice so S.length sc) S (hf.keepF (unhide HB)) hlS)
  have HCT := fun w' (hk : Keeps (fun _ => False) w w') => hide (copyStmts_v Z (l.size + 1) l (by omega) hsz w' up (.slice ao l.len cap) (hp.keepF hk))
  have HT := hide hT
  have HFM := hide hF
  have HF := hide hf
  have HP := hide hp
  have hw0 : w.heap.size ≤ w.heap.size := Nat.le_refl _
  clear hT hF hf hp SB hxc
  go_enter Tryz.func7, Tryz.ntmps7
  go_wp2_with (first
    | (go_at_call 22; refine (unhide HCP).mono ?_; rintro e w1 ⟨v', rfl, hown, hk1⟩; obtain ⟨vo, vc, rfl⟩ := (rowAt_own hown).form; have hka := hk1.alloc (.cells #[.slice vo S.length vc] 24); have HFC := hide (RowAt.keepF (rowAt_own hown) ((Keeps.refl _ w1).alloc (.cells #[.slice vo S.length vc] 24)) : RowAt _ _ S.length (fcs S)); have HB2 := hide (heap_alloc_new w1 (.cells #[.slice vo S.length vc] 24)); have y2 := cell_of_blk (unhide HB2) 0; simp at y2; have y1 := unhide HSB _ hka; have HKa := hide ((unhide HB).trans hka); have HKb := hide hka; clear hown hk1 hka)
    | (go_at_call 20; refine (unhide (HCT _ (unhide HKa))).mono ?_; rintro e w2 ⟨pv2, rfl, hs2, hk2⟩; obtain ⟨po, pc, rfl, hpc⟩ := hs2.head; have HPC := hide hs2; have HFC := hide (RowAt.keepF (unhide HFC) hk2); have HB2 := hide ((hk2.block _ (lt_of_block (unhide HB2)) id).trans (unhide HB2)); have y2 := cell_of_blk (unhide HB2) 0; simp at y2; have HKa := hide ((unhide HKa).trans hk2); have HKb := hide ((unhide HKb).trans hk2); have y1 := unhide HSB _ (unhide HKb); clear hs2 hk2)
    | (go_at_call 15; refine (tfields2_v _ S l hsz _ _ _ 0 ((unhide HT).keepF (unhide HKa)) ((unhide HFM).keepF (unhide HKa)) (unhide HFC) (unhide HPC)).mono ?_; rintro e w3 ⟨rv, wv, rfl, hrv, hwv, hrw, hk3⟩; have HRW := hide hrw; clear hrw; have HRV := hide (ownsRow_lower hrv (unhide HKa).size); have HWV := hide (ownsRow_lower hwv (unhide HKa).size); have HFC := hide (RowAt.keepF (unhide HFC) hk3); have HPC := hide ((unhide HPC).keepF hk3); have HB2 := hide ((hk3.block _ (lt_of_block (unhide HB2)) id).trans (unhide HB2)); have y2 := cell_of_blk (unhide HB2) 0; simp at y2; have HKa := hide ((unhide HKa).trans hk3); have HKb := hide ((unhide HKb).trans hk3); have y1 := unhide HSB _ (unhide HKb); clear hk3 hrv hwv)
    | (go_at_call 23; refine (eqSchema_any _ _ _ S S (unhide HFC) ((unhide HF).keepF (unhide HKa)) (by unfold maxLen; omega)).mono ?_; rintro e w4 ⟨rfl, hk4⟩; rw [decide_eq_true rfl]; have HRV := hide (ownsRow_kept (unhide HRV) hk4 (fun _ _ => id)); have HWV := hide (ownsRow_kept (unhide HWV) hk4 (fun _ _ => id)); have HPC := hide ((unhide HPC).keepF hk4); have HKa := hide ((unhide HKa).trans hk4); clear hk4)
    | (go_at_call 18; refine (eqStmts_same _ Z (l.size + 1) l (by omega) hsz _ 0 up _ _ (unhide HPC) ((unhide HP).keepF (unhide HKa))).mono ?_; rintro e w5 ⟨rfl, hk5⟩; have HRV := hide (ownsRow_kept (unhide HRV) hk5 (fun _ _ => id)); have HWV := hide (ownsRow_kept (unhide HWV) hk5 (fun _ _ => id)); have HKa := hide ((unhide HKa).trans hk5); clear hk5))
  refine bodyPost_ret (v := .tuple #[rv, wv, .int .i64 (fieldsP S l).2.2]) (by simp [results, go_sem]) rfl ?_
  exact ⟨rv, wv, rfl, unhide HRV, unhide HWV, unhide HRW, unhide HKa⟩
end Go.Proofs.YtoempeobaknkcaaGreatDoor
