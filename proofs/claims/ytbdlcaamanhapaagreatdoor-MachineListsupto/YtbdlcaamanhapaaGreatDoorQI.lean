import Derived.Test.YtbdlcaamanhapaaGreatDoorJzbc
namespace Go.Proofs.YtbdlcaamanhapaaGreatDoor
open Go.RowKit Go.Maps
def blockAt (n : Nat) : Code → Option Code
 | .block k c => if k = n then some (.block k c) else blockAt n c
 | .seq a b => match blockAt n a with
  | some c => some c
  | none => blockAt n b
 | .loop c => blockAt n c
 | .cond _ a b => match blockAt n a with
  | some c => some c
  | none => blockAt n b
 | _ => none
noncomputable def piece (n : Nat) : Code := ((Tryz.f3.body.bind (blockAt n)).getD .skip)
def regionAt (n : Nat) : Code → Option Code
 | .region k o d => if k = n then some (.region k o d) else none
 | .block _ c => regionAt n c
 | .seq a b => match regionAt n a with
  | some c => some c
  | none => regionAt n b
 | .loop c => regionAt n c
 | .cond _ a b => match regionAt n a with
  | some c => some c
  | none => regionAt n b
 | _ => none
noncomputable def regn (n : Nat) : Code := ((Tryz.f3.body.bind (regionAt n)).getD .skip)
end Go.Proofs.YtbdlcaamanhapaaGreatDoor
