/-
  Words turned to the right: the code's and the specification's.
-/
import Derived.Test.YtnkahdidelhdaabRows
import Derived.WalkKit
import Derived.WalkSpells
import Derived.Laws.BitsAllLaws
namespace Go.Proofs.Ytnkahdidelhdaab
open Go.RowKit

def shaIntOf : Value → Int | .int _ q => q | _ => 0
/-- a word turned to the right -/
def rot (x : Int) (k : Nat) : Int := bits .or .u32 (x / 2 ^ k) (IntKind.u32.wrap (x * 2 ^ (32 - k)))
theorem or_comm32 (a b : Int) : bits .or .u32 a b = bits .or .u32 b a := by
  show IntKind.u32.wrap ((BitVec.ofInt 32 a ||| BitVec.ofInt 32 b).toNat : Int) = IntKind.u32.wrap ((BitVec.ofInt 32 b ||| BitVec.ofInt 32 a).toNat : Int)
  rw [BitVec.or_comm]

set_option maxRecDepth 100000 in
theorem sturn_any (x : Int) (k : Nat) (w : World) (h1 : 1 ≤ k) (h2 : k ≤ 31) :
    Calls Try.prog 54 #[.int .u32 x, .int .i64 (k : Int)] w fun e w' => e = .returned (.int .u32 (rot x k)) ∧ w' = w := by
  go_enter Try.func54, Try.ntmps54
  go_wp2
  go_ret
  exact ⟨rfl, rfl⟩
theorem sturn_q (x q : Int) (w : World) (h1 : 1 ≤ q) (h2 : q ≤ 31) :
    Calls Try.prog 54 #[.int .u32 x, .int .i64 q] w fun e w' => e = .returned (.int .u32 (rot x q.toNat)) ∧ w' = w := by
  obtain ⟨k, rfl⟩ := Int.eq_ofNat_of_zero_le (by omega : 0 ≤ q)
  exact sturn_any x k w (by omega) (by omega)
end Go.Proofs.Ytnkahdidelhdaab
