/-
  Encrypt of the specification.
-/
import Derived.Test.YtnkahdidelhdaalDoorEncEncS
namespace Go.Proofs.YtnkahdidelhdaalDoor
open Go.RowKit

end Go.Proofs.YtnkahdidelhdaalDoor
