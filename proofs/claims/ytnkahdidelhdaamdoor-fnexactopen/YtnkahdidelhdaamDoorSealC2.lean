/-
  Keys, Seal and Open: the code's.
-/
import Derived.Test.YtnkahdidelhdaamDoorSealC
namespace Go.Proofs.YtnkahdidelhdaamDoor
open Go.RowKit
set_option linter.unusedVariables false

theorem SF.is_nil {w : World} {a : Addr} : Calls Tryd.prog 12 #[.nilIface, .iface 120 (.pointer (some a))] w fun e w' => e = .returned (.bool false) ∧ w' = w := Go.Proofs.YtnkahdidelhdaamDoor.is_nil a w
theorem SF.is_flt {w : World} {a : Addr} (s : ByteArray) : Calls Tryd.prog 12 #[.iface 61 (.agg #[.string s, .iface 120 (.pointer (some a))]), .iface 120 (.pointer (some a))] w fun e w' => e = .returned (.bool true) ∧ Below w.heap.size w w' := is_fault s a w
end Go.Proofs.YtnkahdidelhdaamDoor
