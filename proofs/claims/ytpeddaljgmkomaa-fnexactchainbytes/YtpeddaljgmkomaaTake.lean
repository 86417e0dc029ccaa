/-
  What TakeNum answers, the code's and the specification's, in plain words.
-/
import Derived.Test.YtpeddaljgmkomaaClone
import Derived.Test.YtpeddaljgmkomaaNum
import Derived.WalkSpells
namespace Go.Proofs.Ytpeddaljgmkomaa
open Go.RowKit

end Go.Proofs.Ytpeddaljgmkomaa
