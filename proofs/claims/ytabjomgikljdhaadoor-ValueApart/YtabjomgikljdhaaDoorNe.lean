import Derived.Test.YtabjomgikljdhaaDoorNd
import Derived.Test.YtabjomgikljdhaaDoorK
namespace Go.Proofs.YtabjomgikljdhaaDoor
open Go.RowKit Go.Maps

set_option maxRecDepth 100000 in
set_option maxHeartbeats 1000000 in
theorem fits_v (f : FieldA) (x : ValA) (hf : f.type = 1 ∨ f.type = 2 ∨ f.type = 3) (w : World) : Calls Tryd.prog 67 #[f.v, x.v] w fun e w' => e = .returned (.bool (fitsB f x)) ∧ Keeps (fun _ => False) w w' := by
  obtain ⟨nm, t, o⟩ := f
  obtain ⟨k1, n1, s1⟩ := x
  unfold ValA.v FieldA.v
  have HF := hide hf
  clear hf
  go_enter Tryd.func67, Tryd.ntmps67
  go_wp2
  all_goals (go_ret; refine ⟨ret_bool ?_, ((Keeps.refl _ _).alloc _).alloc _⟩; have hf := unhide HF; apply Bool.eq_iff_iff.2; clear HF; simp_all [fitsB]; try omega)

end Go.Proofs.YtabjomgikljdhaaDoor
