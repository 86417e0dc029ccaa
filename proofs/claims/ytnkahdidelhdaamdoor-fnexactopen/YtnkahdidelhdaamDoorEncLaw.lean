/-
  Encrypt of the specification.
-/
import Derived.Test.YtnkahdidelhdaamDoorEncEncS
namespace Go.Proofs.YtnkahdidelhdaamDoor
open Go.RowKit

end Go.Proofs.YtnkahdidelhdaamDoor
