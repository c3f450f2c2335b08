import Derived.Test.YtljoacpaehmbdaaGreatDoorJzak
import Derived.Test.YtljoacpaehmbdaaGreatDoorJzal
import Derived.Test.YtljoacpaehmbdaaGreatDoorCb
import Derived.Test.YtljoacpaehmbdaaGreatDoorUi
namespace Go.Proofs.YtljoacpaehmbdaaGreatDoor
open Go.RowKit Go.Maps

/-- One call of a script, whatever lies in it, answers true. -/
theorem plays_v (S : List FieldA) (hlS : S.length ≤ 4398046511104) (k op n : Int) (s : Txt) (kids : EL) (p : SL) (sv xv pv : Value) (w : World) (hT : Types w) (hF : Forms w) (hf : FldsAt w sv S) (hx : SlE (argZ w.heap.size) w 0 xv kids) (hp : SlS (argZ w.heap.size) w 0 pv p) :
    Calls Tryz.prog 4 #[.agg #[.int .i64 k, sv, .int .i64 op, .int .i64 n, str s, xv, pv]] w fun e w' => e = .returned (.bool true) ∧ Keeps (fun _ => False) w w' :=
  plays_of k op n s sv xv pv w
    (fun W' hk => types_walk S hlS op n s kids sv xv W' (hT.keepF hk) (hF.keepF hk) (hf.keepF hk) ((hx.keepF hk).arg (Nat.le_refl _) 0))
    (fun W' hk => checks_walk S hlS p sv pv W' (hT.keepF hk) (hF.keepF hk) (hf.keepF hk) ((hp.keepF hk).arg (Nat.le_refl _) 0))
    (fun W' hk => fields_walk S hlS p sv pv W' (hT.keepF hk) (hF.keepF hk) (hf.keepF hk) ((hp.keepF hk).arg (Nat.le_refl _) 0))

/-- Every script answers true. -/
theorem calls_walk {H : Type} {enc : TypeId × Value → H} {W : World} {fuel : Nat} {c : Value} {x : DataW H × List MemPlace} (h : DataW.trod enc Tryz.prog W 0 (fun _ => true) true fuel 22 [c] = some x) (hw : ∀ n ∈ x.1.weights Tryz.prog 22, n ≤ reachBytes) (hT : Types W) (hF : Forms W) :
    Calls Tryz.prog 3 #[c] W fun e w' => e = .returned (.bool true) ∧ Keeps (fun _ => False) W w' := by
  obtain ⟨ao, n, cap, rfl, hn, hA⟩ := ops_in h hw
  refine calls_of ao n cap W hn fun h0 => ?_
  obtain ⟨b, off, e, hb, hops⟩ := hA h0
  refine ⟨b, off, e, hb, fun i hi => ?_⟩
  obtain ⟨k, op, m, s, sv, xv, pv, S, kids, p, hat, hS, hlS, hk, hp⟩ := hops i hi
  exact ⟨k, op, m, s, sv, xv, pv, hat 0 _ rfl, hat 1 _ rfl, hat 2 _ rfl, hat 3 _ rfl, hat 4 _ rfl, hat 5 _ rfl, hat 6 _ rfl, fun W' hk' => plays_v S hlS k op m s kids p sv xv pv W' (hT.keepF hk') (hF.keepF hk') (hS.keepF hk') (((hk 0).keepF hk').arg (Nat.le_refl _) 0) (((hp 0).keepF hk').arg (Nat.le_refl _) 0)⟩
end Go.Proofs.YtljoacpaehmbdaaGreatDoor
