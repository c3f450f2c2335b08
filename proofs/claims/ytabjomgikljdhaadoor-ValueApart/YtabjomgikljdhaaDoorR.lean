import Derived.Test.YtabjomgikljdhaaDoorF
import Derived.Test.YtabjomgikljdhaaDoorQ
namespace Go.Proofs.YtabjomgikljdhaaDoor
open Go.RowKit Go.Maps

theorem conv_at (w : World) (b off cap : Nat) (l : Txt) (h : ∀ j c, l[j]? = some c → w.cell? ⟨b, off + j, none⟩ = some (.int .u8 (num c))) :
    (convert 24 9 (.slice (some ⟨b, off, none⟩) l.length cap)).run Tryd.prog w = .ok (str l) w :=
  run_convert_bytes_back w 24 9 5 ⟨b, off, none⟩ cap l Tryd.underlying24 Tryd.underlying5 Tryd.underlying9 (fun j hj => by
    have := h j l[j] (List.getElem?_eq_getElem hj)
    rw [Addr.add_lit]
    simpa [num] using this)

end Go.Proofs.YtabjomgikljdhaaDoor
