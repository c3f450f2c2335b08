import Derived.Test.YtcmlfbmecbkdoaaDoorF
import Derived.Test.YtcmlfbmecbkdoaaDoorQ
namespace Go.Proofs.YtcmlfbmecbkdoaaDoor
open Go.RowKit Go.Maps

/-- The value of a field at a place of some bytes, and the place behind it (-1: the bytes end too early). -/
def readB (f : FieldA) (t : Txt) (a : Nat) : ValA × Int :=
  if f.type = 1 then (⟨1, (readIntB t a).1, []⟩, (readIntB t a).2)
  else match t[a]? with
    | none => (⟨0, 0, []⟩, -1)
    | some c =>
      if f.type = 2 then (⟨2, num c, []⟩, (a + 1 : Nat))
      else if t.length < a + 1 + c.toNat then (⟨0, 0, []⟩, -1)
      else (⟨3, 0, (t.drop (a + 1)).take c.toNat⟩, (a + 1 + c.toNat : Nat))

theorem conv_at (w : World) (b off cap : Nat) (l : Txt) (h : ∀ j c, l[j]? = some c → w.cell? ⟨b, off + j, none⟩ = some (.int .u8 (num c))) :
    (convert 24 9 (.slice (some ⟨b, off, none⟩) l.length cap)).run Tryd.prog w = .ok (str l) w :=
  run_convert_bytes_back w 24 9 5 ⟨b, off, none⟩ cap l Tryd.underlying24 Tryd.underlying5 Tryd.underlying9 (fun j hj => by
    have := h j l[j] (List.getElem?_eq_getElem hj)
    rw [Addr.add_lit]
    simpa [num] using this)

end Go.Proofs.YtcmlfbmecbkdoaaDoor
