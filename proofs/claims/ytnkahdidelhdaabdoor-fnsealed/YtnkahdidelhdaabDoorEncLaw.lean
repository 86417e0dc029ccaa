/-
  Encrypt of the specification.
-/
import Derived.Test.YtnkahdidelhdaabDoorEncEncS
namespace Go.Proofs.YtnkahdidelhdaabDoor
open Go.RowKit

end Go.Proofs.YtnkahdidelhdaabDoor
