import Derived.Test.YtonodcmbbgpjjaaDoorPeA
import Derived.Test.YtonodcmbbgpjjaaDoorPeB
namespace Go.Proofs.YtonodcmbbgpjjaaDoor
open Go.RowKit Go.Maps
theorem exec_walk (S : List FieldA) (sv u v bv : Value) (l : List ValA) (t : Txt) (hh : Bool) (vals : List ValA) (w : World) (hE : Env w) (hS : FldsAt w sv S) (hl : ValsAt w v l) (hI : InR l) (hbt : BytesAt w bv t) (hr : ValsAt w u vals) :
    Calls Tryd.prog 4 #[.agg #[sv], v, bv, .agg #[.bool hh, u]] w fun e w' => e = .returned (.bool true) ∧ Keeps (fun _ => False) w w' := by
  have hs2 : errS S = 0 ∨ errS S = 60 := by unfold errS; split <;> simp
  by_cases h1 : (runO S l hh vals).e = 0
  · rcases hs2 with hs | hs
    · by_cases hd : (decC t).2 = 0
      · exact exec_Ac S sv u v bv l t hh vals w hE hS hl hI hbt hr h1 hs hd
      · exact exec_Ab S sv u v bv l t hh vals w hE hS hl hI hbt hr h1 hs hd
    · exact exec_Aa S sv u v bv l t hh vals w hE hS hl hI hbt hr h1 hs
  · rcases hs2 with hs | hs
    · by_cases hd : (decC t).2 = 0
      · exact exec_Bc S sv u v bv l t hh vals w hE hS hl hI hbt hr h1 hs hd
      · exact exec_Bb S sv u v bv l t hh vals w hE hS hl hI hbt hr h1 hs hd
    · exact exec_Ba S sv u v bv l t hh vals w hE hS hl hI hbt hr h1 hs
end Go.Proofs.YtonodcmbbgpjjaaDoor
