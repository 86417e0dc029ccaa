/-
  A number in a tree, bit by bit, whoever tells the bits.
-/
import Derived.Test.YtmckchklebohmanNoteC
import Derived.Test.YtmckchklebohmanRngA
namespace Go.Proofs.Ytmckchklebohman
open Go.RowKit
set_option linter.unusedVariables false
def nIntT : Value → Int | .int _ q => q | _ => 0
/-- the bit of a number -/
def tvT (v : Int) (k : Nat) : Nat := (v / (2 : Int) ^ k % 2).toNat
def thT {σ : Type} (bit : σ → Nat → Nat → Nat) (nxt : σ → Nat → Nat → σ) (f : Nat) (v : Int) : Nat → Nat → σ → σ × Nat
  | 0, nd, s => (s, nd)
  | k + 1, nd, s => thT bit nxt f v k (2 * nd + bit s (f + nd) (tvT v k)) (nxt s (f + nd) (tvT v k))
theorem div_bd {v : Int} (h1 : -4611686018427387904 ≤ v) (h2 : v < 4611686018427387904) (j : Nat) : -4611686018427387904 ≤ v / (2 : Int) ^ j ∧ v / (2 : Int) ^ j < 4611686018427387904 := by
  have hp : (1 : Int) ≤ (2 : Int) ^ j := by
    have : 0 < (2 : Int) ^ j := Int.pow_pos (by decide)
    omega
  generalize (2 : Int) ^ j = P at hp
  constructor
  · rw [Int.le_ediv_iff_mul_le (by omega)]
    omega
  · rw [Int.ediv_lt_iff_lt_mul (by omega)]
    omega
theorem i64_and1 (n : Int) (h1 : -9223372036854775808 ≤ n) (h2 : n < 9223372036854775808) : bits .and .i64 n 1 = n % 2 := by
  have h32 : (BitVec.ofInt 64 1).toNat = 2 ^ 1 - 1 := by decide
  have key : (BitVec.ofInt 64 n &&& BitVec.ofInt 64 1).toNat = (n % ((2 ^ 64 : Nat) : Int)).toNat % 2 ^ 1 := by
    rw [BitVec.toNat_and, BitVec.toNat_ofInt, h32, Nat.and_two_pow_sub_one_eq_mod]
  show IntKind.i64.wrap ((BitVec.ofInt 64 n &&& BitVec.ofInt 64 1).toNat : Nat) = n % 2
  rw [key, IntKind.wrap_i64]
  omega
end Go.Proofs.Ytmckchklebohman
