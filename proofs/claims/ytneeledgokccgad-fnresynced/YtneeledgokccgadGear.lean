/-
  The number of a byte that a hash takes: the code's and the specification's.
-/
import Derived.Test.YtneeledgokccgadRows
import Derived.Below
import Derived.WalkKit
import Derived.WalkSpells
namespace Go.Proofs.Ytneeledgokccgad
open Go.RowKit
set_option linter.unusedVariables false
def gz0 (x : Int) : Int := IntKind.u64.wrap (IntKind.u64.wrap (IntKind.u64.wrap x * 11400714819323198485) + 7046029254386353131)
def gz1 (z : Int) : Int := IntKind.u64.wrap (bits BinOp.xor IntKind.u64 z (z / 1073741824) * 13787848793156543929)
def gz2 (z : Int) : Int := IntKind.u64.wrap (bits BinOp.xor IntKind.u64 z (z / 134217728) * 10723151780598845931)
def gz3 (z : Int) : Int := bits BinOp.xor IntKind.u64 z (z / 2147483648)
def gearI (x : Int) : Int := gz3 (gz2 (gz1 (gz0 x)))
set_option maxRecDepth 100000 in
set_option maxHeartbeats 2000000 in
theorem gear_any (x : Int) (w : World) :
    Calls Try.prog 75 #[.int .i64 x] w fun e w' => e = .returned (.int .u64 (gearI x)) ∧ w' = w := by
  go_enter Try.func75, Try.ntmps75
  go_wp2_with fail
  go_ret
  exact ⟨rfl, rfl⟩
set_option maxRecDepth 100000 in
set_option maxHeartbeats 2000000 in
theorem sgear_any (x : Int) (w : World) :
    Calls Try.prog 50 #[.int .i64 x] w fun e w' => e = .returned (.int .u64 (gearI x)) ∧ w' = w := by
  go_enter Try.func50, Try.ntmps50
  go_wp2_with fail
  go_ret
  exact ⟨rfl, rfl⟩
end Go.Proofs.Ytneeledgokccgad
