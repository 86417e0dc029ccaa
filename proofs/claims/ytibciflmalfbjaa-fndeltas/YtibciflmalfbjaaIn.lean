/-
  Whether a number lies between two.
-/
import Derived.Test.YtibciflmalfbjaaRows
import Derived.WalkKit
import Derived.WalkSpells
namespace Go.Proofs.Ytibciflmalfbjaa
open Go.RowKit
end Go.Proofs.Ytibciflmalfbjaa
