/-
  What TakeNum answers, the code's and the specification's, in plain words.
-/
import Derived.Test.YtfegoldjejlcaaaDoorClone
import Derived.Test.YtfegoldjejlcaaaDoorNum
import Derived.WalkSpells
namespace Go.Proofs.YtfegoldjejlcaaaDoor
open Go.RowKit

end Go.Proofs.YtfegoldjejlcaaaDoor
