/-
  Encrypt of the specification.
-/
import Derived.Test.YtnkahdidelhdaacGreatDoorEncEncS
namespace Go.Proofs.YtnkahdidelhdaacGreatDoor
open Go.RowKit

end Go.Proofs.YtnkahdidelhdaacGreatDoor
