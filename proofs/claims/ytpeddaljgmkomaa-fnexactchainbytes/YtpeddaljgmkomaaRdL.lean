/-
  A row of pieces that is made.
-/
import Derived.Test.YtpeddaljgmkomaaRdC
import Derived.Laws.AppendOwn
import Derived.OwnWalk
import Derived.Test.YtpeddaljgmkomaaPcL
namespace Go.Proofs.Ytpeddaljgmkomaa
open Go.RowKit
set_option linter.unusedVariables false
set_option linter.unusedSimpArgs false
end Go.Proofs.Ytpeddaljgmkomaa
