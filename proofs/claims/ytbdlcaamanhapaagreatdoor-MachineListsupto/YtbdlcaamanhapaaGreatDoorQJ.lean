import Derived.Test.YtbdlcaamanhapaaGreatDoorQI
import Derived.Test.YtbdlcaamanhapaaGreatDoorQF
import Derived.Test.YtbdlcaamanhapaaGreatDoorJzbc
namespace Go.Proofs.YtbdlcaamanhapaaGreatDoor
open Go.RowKit Go.Maps
theorem wp_gen {c : Code} {post : Exit → Act → World → Prop} {a : Act} {w : World} (h : ∀ (K : Act → World → Prop), Hid (∀ a w, post .normal a w → K a w) → Code.wp Tryz.prog c (Exit.then K (fun _ _ _ => False)) a w) : Code.wp Tryz.prog c post a w :=
 wp_mono (h (post .normal) (fun _ _ h => h)) fun e a w h => by
  cases e
  all_goals first | exact h | exact False.elim h
theorem cell_keep {w w' : World} {b o : Nat} {v : Value} (h : w.cell? ⟨b, o, none⟩ = some v) (hk : Wp (fun _ => False) w w') : w'.cell? ⟨b, o, none⟩ = some v := (hk.cell (World.block_lt_of_cell? w _ h) id).trans h
theorem bytes_none (w : World) : Wv w (.slice none 0 0) [] := ⟨⟨_, _, rfl⟩, fun h => absurd h (by simp), fun _ _ _ e => by cases e; exact Nat.le_refl _⟩
theorem trace_oT (S : List Wq) (sv u v : Value) (l : List ValA) (hh : Bool) (vals : List ValA) (O : OutA) (T : List (Int × Txt)) (w : World) (hE : Env w) (hS : Wt w sv S) (hl : Wr w v l) (hI : InR l) (hr : Wr w u vals) (hO : O = runO S l hh vals) (hT : T = stepL (traceO S l hh vals)) :
  Calls Tryz.prog 10 #[.agg #[sv], v, .agg #[.bool hh, u]] w fun e w' => ∃ ro rc, e = .returned (.tuple #[.slice ro T.length rc, .int .i64 O.e]) ∧ w'.ownsRow w.heap.size 53 2 (.slice ro T.length rc) T.length (sC T) ∧ Wp (fun _ => False) w w' := by
 subst hO
 subst hT
 rw [← stepL_cs, stepL_len]
 exact trace_o S sv u v l hh vals w hE hS hl hI hr
theorem traceR_vT (S : List Wq) (sv u v : Value) (l : List ValA) (hh : Bool) (vals : List ValA) (O : OutA) (T : List (Int × Txt)) (w : World) (hS : Wt w sv S) (hl : Wr w v l) (hI : InR l) (hr : Wr w u vals) (hO : O = runO S l hh vals) (hT : T = stepL (traceO S l hh vals)) :
  Calls Tryz.prog 11 #[.agg #[sv], v, .agg #[.bool hh, u]] w fun e w' => ∃ ro rc, e = .returned (.tuple #[.slice ro T.length rc, .int .i64 O.e]) ∧ w'.ownsRow w.heap.size 53 2 (.slice ro T.length rc) T.length (sC T) ∧ Wp (fun _ => False) w w' :=
 traceR2 S sv u v l hh vals O T w hS hl hI hr hO hT
theorem set_boxO {w Y : World} {b B n : Nat} {v : Value} {xs : List Value} (hk : Wp (fun _ => False) w Y) (hb : Y.heap[b]? = some (.cells #[.bool false, .slice none 0 0, .int .i64 0, .int .i64 0] 38 (0, 0))) (hn : w.heap.size ≤ b) (hv : Y.ownsRow B 51 3 v n xs) (x : Bool) (u : Value) (p q : Int) :
  ((((Y.setCell ⟨b, 0, none⟩ (.bool x)).setCell ⟨b, 1, none⟩ u).setCell ⟨b, 2, none⟩ (.int .i64 p)).setCell ⟨b, 3, none⟩ (.int .i64 q)).heap[b]? = some (.cells #[.bool x, u, .int .i64 p, .int .i64 q] 38 (0, 0)) ∧
    ((((Y.setCell ⟨b, 0, none⟩ (.bool x)).setCell ⟨b, 1, none⟩ u).setCell ⟨b, 2, none⟩ (.int .i64 p)).setCell ⟨b, 3, none⟩ (.int .i64 q)).ownsRow B 51 3 v n xs ∧
    Wp (fun _ => False) w ((((Y.setCell ⟨b, 0, none⟩ (.bool x)).setCell ⟨b, 1, none⟩ u).setCell ⟨b, 2, none⟩ (.int .i64 p)).setCell ⟨b, 3, none⟩ (.int .i64 q)) := by
 have k4 := Wu Y b (.bool x) u (.int .i64 p) (.int .i64 q)
 obtain ⟨Y1, hY, h1, k1⟩ := stored4 hb (.bool x) u (.int .i64 p) (.int .i64 q)
 rw [hY] at k4 ⊢
 refine ⟨h1, zI hv k4 (fun r e f => ?_), hk.fresh hn k1⟩
 obtain ⟨_, c, hc⟩ := own_typed hv e
 subst f
 rw [hb] at hc
 cases hc
structure Base (w : World) (sb rb db : Nat) (sv : Value) (S : List Wq) (cv : Value) (Cs : List (List ValA)) (hs : List Value) (hh : Bool) (uv bv : Value) (V : List ValA) : Prop where
 env : Env w
 flds : Wt w sv S
 codes : CodesAt w cv Cs hs
 row : Wr w uv V
 copy : Wr w bv V
 b0 : w.heap[sb]? = some (.cells #[sv] 24 (0, 0))
 b1 : w.heap[rb]? = some (.cells #[.bool hh, uv] 27 (0, 0))
 b2 : w.heap[db]? = some (.cells #[.bool hh, bv] 27 (0, 0))
theorem Base.keepF {w w' : World} {sb rb db : Nat} {sv cv uv bv : Value} {S : List Wq} {Cs : List (List ValA)} {hs : List Value} {hh : Bool} {V : List ValA} (h : Base w sb rb db sv S cv Cs hs hh uv bv V) (hk : Wp (fun _ => False) w w') : Base w' sb rb db sv S cv Cs hs hh uv bv V :=
 ⟨h.env.keepF hk, h.flds.keepF hk, h.codes.keepF hk, h.row.keepF hk, h.copy.keepF hk, zD h.b0 hk, zD h.b1 hk, zD h.b2 hk⟩
end Go.Proofs.YtbdlcaamanhapaaGreatDoor
