import Derived.Test.YtafniangljmjeabDoorNn
namespace Go.Proofs.YtafniangljmjeabDoor
open Go.RowKit Go.Maps

/-- What Decode answers. -/
def decodeV (l : List FieldA) (t : Txt) : List ValA × Int := if schemaB l = false then ([], 60) else match decodeP l t with
  | none => ([], 62)
  | some r => (r, 0)

end Go.Proofs.YtafniangljmjeabDoor
