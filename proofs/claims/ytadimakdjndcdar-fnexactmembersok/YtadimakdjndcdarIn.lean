/-
  Whether a number lies between two.
-/
import Derived.Test.YtadimakdjndcdarRows
import Derived.WalkKit
import Derived.WalkSpells
namespace Go.Proofs.Ytadimakdjndcdar
open Go.RowKit
end Go.Proofs.Ytadimakdjndcdar
