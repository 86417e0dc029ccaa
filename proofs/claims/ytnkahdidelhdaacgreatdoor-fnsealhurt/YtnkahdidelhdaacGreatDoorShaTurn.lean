/-
  Words turned to the right: the code's and the specification's.
-/
import Derived.Test.YtnkahdidelhdaacGreatDoorRows
import Derived.WalkKit
import Derived.WalkSpells
import Derived.Laws.BitsAllLaws
namespace Go.Proofs.YtnkahdidelhdaacGreatDoor
open Go.RowKit

def shaIntOf : Value → Int | .int _ q => q | _ => 0
/-- a word turned to the right -/
def rot (x : Int) (k : Nat) : Int := bits .or .u32 (x / 2 ^ k) (IntKind.u32.wrap (x * 2 ^ (32 - k)))
theorem or_comm32 (a b : Int) : bits .or .u32 a b = bits .or .u32 b a := by
  show IntKind.u32.wrap ((BitVec.ofInt 32 a ||| BitVec.ofInt 32 b).toNat : Int) = IntKind.u32.wrap ((BitVec.ofInt 32 b ||| BitVec.ofInt 32 a).toNat : Int)
  rw [BitVec.or_comm]

set_option maxRecDepth 100000 in
theorem sturn_any (x : Int) (k : Nat) (w : World) (h1 : 1 ≤ k) (h2 : k ≤ 31) :
    Calls Tryz.prog 60 #[.int .u32 x, .int .i64 (k : Int)] w fun e w' => e = .returned (.int .u32 (rot x k)) ∧ w' = w := by
  go_enter Tryz.func60, Tryz.ntmps60
  go_wp2
  go_ret
  exact ⟨rfl, rfl⟩
set_option maxRecDepth 100000 in
theorem turn_any (x : Int) (k : Nat) (w : World) (h1 : 1 ≤ k) (h2 : k ≤ 31) :
    Calls Tryz.prog 66 #[.int .u32 x, .int .i64 (k : Int)] w fun e w' => e = .returned (.int .u32 (rot x k)) ∧ w' = w := by
  have ha : bits .and .u64 (IntKind.u64.wrap (-(k : Int))) 31 = ((32 - k : Nat) : Int) := by
    have e : IntKind.u64.wrap (-(k : Int)) = ((18446744073709551616 - k : Nat) : Int) := by rw [IntKind.wrap_u64]; omega
    rw [e]
    have := bits_mask .u64 64 (by decide) (fun n _ _ => by rw [IntKind.wrap_u64]; omega) 5 (by decide) ((18446744073709551616 - k : Nat) : Int) (by omega) (by omega)
    exact this.trans (by omega)
  have hk2 : 32 - (32 - k) = k := by omega
  have hfin : Hid (Ending.returned (Value.int .u32 (bits .or .u32 (x * 2 ^ (32 - k) % 4294967296) (x / 2 ^ k))) = Ending.returned (Value.int .u32 (rot x k))) := by
    show _ = _
    unfold rot; rw [or_comm32, IntKind.wrap_u32]
  go_enter Tryz.func66, Tryz.ntmps66
  go_wp2
  go_ret
  exact ⟨hfin.out, rfl⟩
theorem sturn_q (x q : Int) (w : World) (h1 : 1 ≤ q) (h2 : q ≤ 31) :
    Calls Tryz.prog 60 #[.int .u32 x, .int .i64 q] w fun e w' => e = .returned (.int .u32 (rot x q.toNat)) ∧ w' = w := by
  obtain ⟨k, rfl⟩ := Int.eq_ofNat_of_zero_le (by omega : 0 ≤ q)
  exact sturn_any x k w (by omega) (by omega)
theorem turn_q (x q : Int) (w : World) (h1 : 1 ≤ q) (h2 : q ≤ 31) :
    Calls Tryz.prog 66 #[.int .u32 x, .int .i64 q] w fun e w' => e = .returned (.int .u32 (rot x q.toNat)) ∧ w' = w := by
  obtain ⟨k, rfl⟩ := Int.eq_ofNat_of_zero_le (by omega : 0 ≤ q)
  exact turn_any x k w (by omega) (by omega)
end Go.Proofs.YtnkahdidelhdaacGreatDoor
