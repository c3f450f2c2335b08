import Derived.Test.YtcicaifioghciaaGreatDoorOa
import Derived.Test.YtcicaifioghciaaGreatDoorOc
import Derived.Test.YtcicaifioghciaaGreatDoorQg
import Derived.Test.YtcicaifioghciaaGreatDoorJzam
import Derived.Test.YtcicaifioghciaaGreatDoorGc
import Derived.Deep.DeepCutAuto
namespace Go.Proofs.YtcicaifioghciaaGreatDoor
open Go.RowKit Go.Maps

theorem vcs_two (a b : List ValA) : vcs (a ++ b) = vcs a ++ vcs b := by simp [vcs]
theorem wide_in {w : World} {B g m' : Nat} {l : List ValA} {m : Int} (h : w.ownsRow B 51 3 (.slice (some ⟨g, 0, none⟩) (l.length + 2) m') (l.length + 2) (vcs (markedL l m))) : ValsAt w (.slice (some ⟨g, 0, none⟩) l.length m') l := by
  have := rowAt_own h
  rw [markedL, vcs_two] at this
  exact RowAt.first this (by omega)
theorem wide_all {w : World} {B : Nat} {v : Value} {l : List ValA} {m : Int} (h : w.ownsRow B 51 3 v (l.length + 2) (vcs (markedL l m))) : ValsAt w v (markedL l m) := by
  have e : (markedL l m).length = l.length + 2 := by simp [markedL]
  have := rowAt_own h
  rw [← e] at this
  exact this
theorem lent_in {w : World} {B g c : Nat} {S : List FieldA} (h : w.ownsRow B 55 3 (.slice (some ⟨g, 0, none⟩) (S.length + 8) c) (S.length + 8) (fcs (lentL S))) : FldsAt w (.slice (some ⟨g, 0, none⟩) S.length c) S := by
  have := rowAt_own h
  rw [lentL, fcs_app] at this
  exact RowAt.first this (by omega)
theorem lent_all {w : World} {B : Nat} {v : Value} {S : List FieldA} (h : w.ownsRow B 55 3 v (S.length + 8) (fcs (lentL S))) : FldsAt w v (lentL S) := by
  have e : (lentL S).length = S.length + 8 := by simp [lentL]
  have := rowAt_own h
  rw [← e] at this
  exact this
theorem texted_own {w : World} {B : Nat} {vt : Value} {o : Option (List PlA)} (h : Texted w vt o) (h2 : ∀ ps, o = some ps → w.ownsRow B 9 1 vt ps.length (txts ps)) : w.ownsRow B 9 1 vt (textsO o).length ((textsO o).map str) := by
  cases o with
  | none =>
    have h' : vt = .slice none 0 0 := h
    subst h'
    exact World.ownsRow_nil w B 9 1
  | some ps =>
    have := h2 ps rfl
    have e : ((textsO (some ps)).map str) = txts ps := by simp [textsO, txts, Function.comp_def]
    have e2 : (textsO (some ps)).length = ps.length := by simp [textsO]
    rw [e, e2]
    exact this
theorem listA_err (l : List ValA) : (listA l).2 = (encC l).2 := by
  unfold listA
  split
  · rename_i h; rw [h]
  · rfl

theorem encode_w {l : List ValA} {x : Txt} {q : Int} (hx : encC l = (x, q)) (v : Value) (w : World) (hO : Ops w) (hT : Types w) (h : ValsAt w v l) (hI : InR l) :
    Calls Tryz.prog 8 #[v] w fun e w' => ∃ o c, e = .returned (.tuple #[.slice o x.length c, .int .i64 q]) ∧ w'.ownsRow w.heap.size 5 1 (.slice o x.length c) x.length (bs x) ∧ Keeps (fun _ => False) w w' := by
  have := encode_v l v w hO hT h hI
  rw [hx] at this
  refine this.mono ?_
  rintro e w' ⟨b, rfl, ho, hk⟩
  obtain ⟨o, c, rfl⟩ := (rowAt_own ho).form
  exact ⟨o, c, rfl, ho, hk⟩
theorem refEncode_w {l : List ValA} {x : Txt} {q : Int} (hx : encC l = (x, q)) (v : Value) (w : World) (h : ValsAt w v l) (hI : InR l) :
    Calls Tryz.prog 6 #[v] w fun e w' => ∃ o c, e = .returned (.tuple #[.slice o x.length c, .int .i64 q]) ∧ w'.ownsRow w.heap.size 5 1 (.slice o x.length c) x.length (bs x) ∧ Keeps (fun _ => False) w w' := by
  have := refEncode_v l v w h hI
  rw [hx] at this
  refine this.mono ?_
  rintro e w' ⟨b, rfl, ho, hk⟩
  obtain ⟨o, c, rfl⟩ := (rowAt_own ho).form
  exact ⟨o, c, rfl, ho, hk⟩
theorem types_w {S : List FieldA} {l : List ValA} {t : List Txt} {q : Int} (ht : textsO (lookA S l).1 = t) (hq : (lookA S l).2.2 = q) (so : Option Addr) (sc : Nat) (v : Value) (w : World) (hO : Ops w) (hT : Types w) (hS : FldsAt w (.slice so S.length sc) S) (h : ValsAt w v l) (hI : InR l) :
    Calls Tryz.prog 11 #[.agg #[.slice so S.length sc], v] w fun e w' => ∃ o c, e = .returned (.tuple #[.slice o t.length c, .int .i64 q]) ∧ w'.ownsRow w.heap.size 9 1 (.slice o t.length c) t.length (t.map str) ∧ Keeps (fun _ => False) w w' := by
  refine (types_v S so sc l v w hO hT hS h hI).mono ?_
  rintro e w' ⟨b, rfl, h1, h2, hk⟩
  have ho := texted_own h1 h2
  rw [ht] at ho
  rw [hq]
  obtain ⟨o, c, rfl⟩ := (rowAt_own ho).form
  exact ⟨o, c, rfl, ho, hk⟩
theorem refTypes_w {S : List FieldA} {l : List ValA} {t : List Txt} {q : Int} (ht : textsO (lookA S l).1 = t) (hq : (lookA S l).2.2 = q) (so : Option Addr) (sc : Nat) (v : Value) (w : World) (hS : FldsAt w (.slice so S.length sc) S) (h : ValsAt w v l) (hI : InR l) :
    Calls Tryz.prog 7 #[.agg #[.slice so S.length sc], v] w fun e w' => ∃ o c, e = .returned (.tuple #[.slice o t.length c, .int .i64 q]) ∧ w'.ownsRow w.heap.size 9 1 (.slice o t.length c) t.length (t.map str) ∧ Keeps (fun _ => False) w w' := by
  refine (refTypes_v S so sc l v w hS h hI).mono ?_
  rintro e w' ⟨b, rfl, h1, h2, hk⟩
  have ho := texted_own h1 h2
  rw [ht] at ho
  rw [hq]
  obtain ⟨o, c, rfl⟩ := (rowAt_own ho).form
  exact ⟨o, c, rfl, ho, hk⟩
theorem list_w {l : List ValA} {x : Txt} {q : Int} (hx : encC l = (x, q)) (v : Value) (w : World) (hO : Ops w) (hT : Types w) (hP : Pow w) (h : ValsAt w v l) (hI : InR l) :
    Calls Tryz.prog 9 #[v] w fun e w' => ∃ s, e = .returned (.tuple #[str s, .int .i64 q]) ∧ Keeps (fun _ => False) w w' := by
  have := list_v l v w hO hT hP h hI
  rw [listA_err, hx] at this
  exact this.mono fun e w' ⟨h1, h2⟩ => ⟨_, h1, h2⟩
theorem verify_w {S : List FieldA} {l : List ValA} (so : Option Addr) (sc : Nat) (v : Value) (w : World) (hO : Ops w) (hT : Types w) (hS : FldsAt w (.slice so S.length sc) S) (h : ValsAt w v l) (hI : InR l) :
    Calls Tryz.prog 10 #[.agg #[.slice so S.length sc], v] w fun e w' => ∃ a b c, e = .returned (.tuple #[.int .i64 a, .int .i64 b, .int .i64 c]) ∧ Keeps (fun _ => False) w w' :=
  (verify_v S so sc l v w hO hT hS h hI).mono fun _ _ ⟨h1, h2⟩ => ⟨_, _, _, h1, h2⟩
theorem decode_w {x : Txt} {d : List ValA} {q : Int} (hd : decC x = (d, q)) (v : Value) (w : World) (hO : Ops w) (hT : Types w) (h : BytesAt w v x) :
    Calls Tryz.prog 17 #[v] w fun e w' => ∃ o c, e = .returned (.tuple #[.slice o d.length c, .int .i64 q]) ∧ w'.ownsRow w.heap.size 51 3 (.slice o d.length c) d.length (vcs d) ∧ Keeps (fun _ => False) w w' := by
  have := decode_c x v w hO hT h
  rw [hd] at this
  refine this.mono ?_
  rintro e w' ⟨b, rfl, ho, hk⟩
  obtain ⟨o, c, rfl⟩ := (rowAt_own ho).form
  exact ⟨o, c, rfl, ho, hk⟩
theorem copied_w {l : List ValA} (v : Value) (w : World) (h : ValsAt w v l) (hl : l.length + 2 ≤ 4398046511104) :
    Calls Tryz.prog 19 #[v] w fun e w' => ∃ o c, e = .returned (.slice o l.length c) ∧ w'.ownsRow w.heap.size 51 3 (.slice o l.length c) l.length (vcs l) ∧ Keeps (fun _ => False) w w' := by
  refine (copied_v w v l h (by omega)).mono ?_
  rintro e w' ⟨b, rfl, ho, hk⟩
  obtain ⟨o, c, rfl⟩ := (rowAt_own ho).form
  exact ⟨o, c, rfl, ho, hk⟩
theorem twin_w {S : List FieldA} (v : Value) (w : World) (h : FldsAt w v S) (hl : S.length + 8 ≤ 4398046511104) :
    Calls Tryz.prog 20 #[.agg #[v]] w fun e w' => ∃ o c, e = .returned (.agg #[.slice o S.length c]) ∧ w'.ownsRow w.heap.size 55 3 (.slice o S.length c) S.length (fcs S) ∧ Keeps (fun _ => False) w w' := by
  refine (twin_v w v S h (by omega)).mono ?_
  rintro e w' ⟨b, rfl, ho, hk⟩
  obtain ⟨o, c, rfl⟩ := (rowAt_own ho).form
  exact ⟨o, c, rfl, ho, hk⟩
theorem copyBytes_w {x : Txt} (v : Value) (w : World) (h : BytesAt w v x) (hx : x.length ≤ 96) :
    Calls Tryz.prog 18 #[v] w fun e w' => ∃ o c, e = .returned (.slice o x.length c) ∧ w'.ownsRow w.heap.size 5 1 (.slice o x.length c) x.length (bs x) ∧ Keeps (fun _ => False) w w' := by
  refine (copyBytes_any w v x h (by omega)).mono ?_
  rintro e w' ⟨b, rfl, ho, hk⟩
  obtain ⟨o, c, rfl⟩ := (rowAt_own ho).form
  exact ⟨o, c, rfl, ho, hk⟩
theorem eqBytes_w {B C : Nat} {x : Txt} (v u : Value) (w : World) (h1 : w.ownsRow B 5 1 v x.length (bs x)) (h2 : w.ownsRow C 5 1 u x.length (bs x)) (hx : x.length ≤ 96) :
    Calls Tryz.prog 12 #[v, u] w fun e w' => e = .returned (.bool true) ∧ Keeps (fun _ => False) w w' := by
  refine (eqBytes_any w v u x x (rowAt_own h1) (rowAt_own h2) (by unfold maxLen; omega)).mono ?_
  rintro e w' ⟨rfl, n, rfl⟩
  exact ⟨by simp, keeps_drewN _ _⟩
theorem eqStrings_w {B C : Nat} {t : List Txt} (v u : Value) (w : World) (h1 : w.ownsRow B 9 1 v t.length (t.map str)) (h2 : w.ownsRow C 9 1 u t.length (t.map str)) (hx : t.length ≤ maxLen) :
    Calls Tryz.prog 13 #[v, u] w fun e w' => e = .returned (.bool true) ∧ Keeps (fun _ => False) w w' := by
  refine (eqStrings_v w v u t t (rowAt_own h1) (rowAt_own h2) hx).mono ?_
  rintro e w' ⟨rfl, hk⟩
  exact ⟨by simp, hk⟩
theorem eqCode_w {l : List ValA} (v u : Value) (w : World) (h1 : ValsAt w v l) (h2 : ValsAt w u l) (hx : l.length ≤ 4398046511104) :
    Calls Tryz.prog 14 #[v, u] w fun e w' => e = .returned (.bool true) ∧ Keeps (fun _ => False) w w' := by
  refine (eqCode_v w v u l l h1 h2 (by unfold maxLen; omega)).mono ?_
  rintro e w' ⟨rfl, hk⟩
  exact ⟨by simp, hk⟩
theorem eqCode_w2 {d l : List ValA} (hd : d = l) (v u : Value) (w : World) (h1 : ValsAt w v d) (h2 : ValsAt w u l) (hx : l.length + 2 ≤ 4398046511104) :
    Calls Tryz.prog 14 #[v, u] w fun e w' => e = .returned (.bool true) ∧ Keeps (fun _ => False) w w' := by
  subst hd
  exact eqCode_w v u w h1 h2 (by omega)
theorem eqSchema_w {S : List FieldA} (v u : Value) (w : World) (h1 : FldsAt w v S) (h2 : FldsAt w u S) (hx : S.length + 8 ≤ 4398046511104) :
    Calls Tryz.prog 15 #[.agg #[v], .agg #[u]] w fun e w' => e = .returned (.bool true) ∧ Keeps (fun _ => False) w w' := by
  refine (eqSchema_any w v u S S h1 h2 (by unfold maxLen; omega)).mono ?_
  rintro e w' ⟨rfl, hk⟩
  exact ⟨by simp, hk⟩
end Go.Proofs.YtcicaifioghciaaGreatDoor
