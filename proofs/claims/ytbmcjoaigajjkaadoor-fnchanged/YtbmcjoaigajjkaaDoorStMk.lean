/-
  Lists of texts that are held against one another, marked, and asked whether they are held: the law's own ways.
-/
import Derived.Test.YtbmcjoaigajjkaaDoorNMk
import Derived.BigRegion
import Derived.BigQuiet
import Derived.Laws.Rows
namespace Go.Proofs.YtbmcjoaigajjkaaDoor
open Go.RowKit
set_option linter.unusedVariables false
set_option linter.unusedSimpArgs false
def stC (xs : List ByteArray) : List Value := xs.map fun x => .string x
end Go.Proofs.YtbmcjoaigajjkaaDoor
