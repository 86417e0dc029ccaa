/-
  Words turned to the right: the code's and the specification's.
-/
import Derived.Test.YtibciflmalfbjaaRows
import Derived.WalkKit
import Derived.WalkSpells
import Derived.Laws.BitsAllLaws
namespace Go.Proofs.Ytibciflmalfbjaa
open Go.RowKit

def shaIntOf : Value → Int | .int _ q => q | _ => 0
/-- a word turned to the right -/
def rot (x : Int) (k : Nat) : Int := bits .or .u32 (x / 2 ^ k) (IntKind.u32.wrap (x * 2 ^ (32 - k)))
theorem or_comm32 (a b : Int) : bits .or .u32 a b = bits .or .u32 b a := by
  show IntKind.u32.wrap ((BitVec.ofInt 32 a ||| BitVec.ofInt 32 b).toNat : Int) = IntKind.u32.wrap ((BitVec.ofInt 32 b ||| BitVec.ofInt 32 a).toNat : Int)
  rw [BitVec.or_comm]

end Go.Proofs.Ytibciflmalfbjaa
