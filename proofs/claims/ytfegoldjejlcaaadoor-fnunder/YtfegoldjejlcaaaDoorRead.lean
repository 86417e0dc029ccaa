/-
  What readNum and the code's TakeNum answer, in plain words.
-/
import Derived.Test.YtfegoldjejlcaaaDoorTake
namespace Go.Proofs.YtfegoldjejlcaaaDoor
open Go.RowKit

/-- what readNum tells -/
def numOut (s : ByteArray) : Value := match num s with
  | none => .tuple #[.int .u64 0, .int .i64 0]
  | some (X, u) => .tuple #[.int .u64 X, .int .i64 u]
theorem numOut_none {s : ByteArray} (h : num s = none) : numOut s = .tuple #[.int .u64 0, .int .i64 0] := by unfold numOut; rw [h]
theorem numOut_some {s : ByteArray} {X : Int} {u : Nat} (h : num s = some (X, u)) : numOut s = .tuple #[.int .u64 X, .int .i64 u] := by unfold numOut; rw [h]

end Go.Proofs.YtfegoldjejlcaaaDoor
