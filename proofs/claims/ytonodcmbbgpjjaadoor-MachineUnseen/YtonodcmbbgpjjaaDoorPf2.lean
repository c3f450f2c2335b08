import Derived.Test.YtonodcmbbgpjjaaDoorPfx
import Derived.Test.YtonodcmbbgpjjaaDoorPfy
namespace Go.Proofs.YtonodcmbbgpjjaaDoor
open Go.RowKit Go.Maps
theorem unseen_walk (S : List FieldA) (sv u v : Value) (l : List ValA) (hh : Bool) (vals : List ValA) (at_ : Int) (ot : ValA) (w : World) (hE : Env w) (hS : FldsAt w sv S) (hl : ValsAt w v l) (hI : InR l) (hr : ValsAt w u vals) (hIo : InR [ot]) :
    Calls Tryd.prog 5 #[.agg #[sv], v, .agg #[.bool hh, u], .int .i64 at_, .agg #[.int .i64 ot.kind, .int .i64 ot.n, str ot.s]] w fun e w' => e = .returned (.bool true) ∧ Keeps (fun _ => False) w w' := by
  by_cases h1 : (runO S l hh vals).e = 0
  · by_cases ha : at_ < 0 ∨ (l.length : Int) ≤ at_
    · exact unseen_2 S sv u v l hh vals at_ ot w hE hS hl hI hr h1 ha
    · obtain ⟨p, rfl⟩ : ∃ p : Nat, at_ = p := ⟨at_.toNat, by omega⟩
      have hp : p < l.length := by omega
      by_cases hV : (verifyA S (l.set p ot)).2.2 = 0
      · exact unseen_3y S sv u v l hh vals p ot w hE hS hl hI hr hIo h1 hp hV
      · exact unseen_3x S sv u v l hh vals p ot w hE hS hl hI hr hIo h1 hp hV
  · exact unseen_1 S sv u v l hh vals at_ ot w hE hS hl hI hr h1
end Go.Proofs.YtonodcmbbgpjjaaDoor
