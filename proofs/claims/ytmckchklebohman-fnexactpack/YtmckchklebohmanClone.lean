/-
  strings.Clone answers a string of the same bytes, whatever the string; of what was in memory nothing is changed. Condition: the string has at most 2^48 bytes.
-/
import Derived.Test.YtmckchklebohmanRows
import Derived.Lib.Strings
import Derived.Lib.Walk
import Derived.Lib.BufferWrite
import Derived.Lib.UnsafeStr
import Derived.Lib.Hide
import Derived.Laws.MakeOwn
import Derived.WalkKit
namespace Go.Proofs.Ytmckchklebohman
open Go.RowKit

theorem Try.inf5 : (Try.prog.info? 5).map (fun i => (i.zero, i.size, i.bytes)) = some (some (.int .u8 0), 1, 1) := by kernel_rfl

end Go.Proofs.Ytmckchklebohman
