import Derived.Test.YtjhppnecadnekaaDoorJw
import Derived.Test.YtjhppnecadnekaaDoorKm
import Derived.Test.YtjhppnecadnekaaDoorNd
namespace Go.Proofs.YtjhppnecadnekaaDoor
open Go.RowKit Go.Maps

theorem zero_at {X w1 : World} {c0 c1 : Value} {t : TypeId} (H : Nat) (hH : X.heap.size = H) (hk : Keeps (fun _ => False) (X.alloc (.cells #[c0, c1] t)) w1) : w1.heap[H]? = some (.cells #[c0, c1] t (0, 0)) := by
  subst hH
  rw [hk.block _ (by simp) id]
  exact heap_alloc_new X _
theorem zero_atD {X w1 : World} {c0 c1 : Value} {t : TypeId} (H : Nat) (hH : X.heap.size = H) (hk : Keeps (fun _ => False) (X.alloc (.cells #[c0, c1] t)).drew w1) : w1.heap[H]? = some (.cells #[c0, c1] t (0, 0)) := zero_at H hH ((Keeps.refl _ _).drew.trans hk)

/-- What Type answers, as a value. -/
abbrev typV (p : Int × Bool × Int) : Value := .tuple #[.int .i64 p.1, .bool p.2.1, .int .i64 p.2.2]
end Go.Proofs.YtjhppnecadnekaaDoor
