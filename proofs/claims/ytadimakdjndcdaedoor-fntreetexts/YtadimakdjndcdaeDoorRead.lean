/-
  What readNum and the code's TakeNum answer, in plain words.
-/
import Derived.Test.YtadimakdjndcdaeDoorTake
namespace Go.Proofs.YtadimakdjndcdaeDoor
open Go.RowKit

/-- what readNum tells -/
def numOut (s : ByteArray) : Value := match num s with
  | none => .tuple #[.int .u64 0, .int .i64 0]
  | some (X, u) => .tuple #[.int .u64 X, .int .i64 u]
theorem numOut_none {s : ByteArray} (h : num s = none) : numOut s = .tuple #[.int .u64 0, .int .i64 0] := by unfold numOut; rw [h]
theorem numOut_some {s : ByteArray} {X : Int} {u : Nat} (h : num s = some (X, u)) : numOut s = .tuple #[.int .u64 X, .int .i64 u] := by unfold numOut; rw [h]

set_option maxRecDepth 100000 in
set_option maxHeartbeats 1000000 in
theorem read_any (s : ByteArray) (w : World) (hs : s.size ≤ maxLen) :
    Calls Tryd.prog 73 #[.string s] w fun e w' => e = .returned (numOut s) ∧ w' = w := by
  unfold maxLen at hs
  go_enter Tryd.func73, Tryd.ntmps73
  go_wp2
  go_loop [4, 10] (fun n i => ∃ (k : Nat) (X : Int), k ≤ s.size ∧ k ≤ 10 ∧ i = .int .i64 k ∧ n = .int .u64 X ∧ num s = rd X k (s.data.toList.drop k)) (fun _ i => s.size - (intOf i).toNat)
  case atStart => exact ⟨0, 0, by omega, by omega, rfl, rfl, rfl⟩
  case round =>
    obtain ⟨k, X, hk, hk10, rfl, rfl, hd⟩ := hrel
    have HD : Hid (num s = rd X k (s.data.toList.drop k)) := hd
    clear hd
    by_cases hlt : k < s.size
    · have m127 := mask127 (c := (s[k].toNat : Int)) (by omega) (by have := s[k].toNat_lt; omega)
      go_wp2
      · have h9 : (k : Int) = 9 := by assumption
        obtain rfl : k = 9 := by omega
        go_ret2
        exact ⟨by rw [numOut_none (num_none HD.out hlt (by omega))]; rfl, rfl⟩
      · have h9 : (k : Int) = 9 := by assumption
        obtain rfl : k = 9 := by omega
        go_ret2
        exact ⟨by rw [numOut_none (num_none HD.out hlt (by omega))]; rfl, rfl⟩
      · have h9 : (k : Int) = 9 := by assumption
        obtain rfl : k = 9 := by omega
        go_ret2
        exact ⟨by rw [numOut_some (num_some HD.out hlt (by omega) (by omega) (by omega) (by omega)), grp_nine _ _ (by omega)]; rfl, rfl⟩
      · go_round
        case rel => exact ⟨k + 1, _, by omega, by omega, by go_num, rfl, num_go HD.out hlt (by omega) (by omega) (by omega)⟩
        case measure => simp [intOf]; omega
      · go_ret2
        exact ⟨by rw [numOut_none (num_none HD.out hlt (by omega))]; rfl, rfl⟩
      · go_ret2
        exact ⟨by rw [numOut_some (num_some HD.out hlt (by omega) (by omega) (by omega) (by omega)), grp_zero _ _ _ (by assumption)]; rfl, rfl⟩
      · go_ret2
        exact ⟨by rw [numOut_some (num_some HD.out hlt (by omega) (by omega) (by omega) (by omega))]; rfl, rfl⟩
      · go_ret2
        exact ⟨by rw [numOut_none (num_ten HD.out (by omega))]; rfl, rfl⟩
    · go_wp2
      go_ret2
      exact ⟨by rw [numOut_none (num_end HD.out (by omega))]; rfl, rfl⟩

end Go.Proofs.YtadimakdjndcdaeDoor
