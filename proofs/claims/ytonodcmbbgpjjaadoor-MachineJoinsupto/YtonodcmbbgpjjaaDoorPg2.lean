import Derived.Test.YtonodcmbbgpjjaaDoorPg1
import Derived.Test.YtonodcmbbgpjjaaDoorPg4
namespace Go.Proofs.YtonodcmbbgpjjaaDoor
open Go.RowKit Go.Maps
theorem joins_walk (S : List FieldA) (sv u v bv : Value) (l b : List ValA) (hh : Bool) (vals : List ValA) (w : World) (hE : Env w) (hS : FldsAt w sv S) (hl : ValsAt w v l) (hI : InR l) (hB : ValsAt w bv b) (hIb : InR b) (hr : ValsAt w u vals) (hlen : l.length + b.length ≤ 4398046511104) :
    Calls Tryd.prog 6 #[.agg #[sv], v, bv, .agg #[.bool hh, u]] w fun e w' => e = .returned (.bool true) ∧ Keeps (fun _ => False) w w' := by
  by_cases h1 : (runO S l hh vals).e = 0
  · by_cases h2 : (runO S b (runO S l hh vals).here (runO S l hh vals).vals).e = 0
    · by_cases h3 : (verifyA S (l ++ b)).2.2 = 0
      · exact joins_4 S sv u v bv l b hh vals w hE hS hl hI hB hIb hr hlen h1 h2 h3
      · exact joins_3 S sv u v bv l b hh vals w hE hS hl hI hB hIb hr hlen h1 h2 h3
    · exact joins_2 S sv u v bv l b hh vals w hE hS hl hI hB hIb hr hlen h1 h2
  · exact joins_1 S sv u v bv l b hh vals w hE hS hl hI hB hIb hr hlen h1
end Go.Proofs.YtonodcmbbgpjjaaDoor
