/-
  What TakeNum answers, the code's and the specification's, in plain words.
-/
import Derived.Test.YtadimakdjndcdaeDoorClone
import Derived.Test.YtadimakdjndcdaeDoorNum
import Derived.WalkSpells
namespace Go.Proofs.YtadimakdjndcdaeDoor
open Go.RowKit

set_option maxRecDepth 100000 in
set_option maxHeartbeats 1000000 in
theorem stake_any (s : ByteArray) (w : World) (hs : s.size ≤ maxLen) :
    Calls Tryd.prog 77 #[.string s] w fun e w' => e = .returned (takeOut s) ∧ Below w.heap.size w w' := by
  unfold maxLen at hs
  go_enter Tryd.func77, Tryd.ntmps77
  go_wp2
  go_loop [5, 6] (fun n i => ∃ (k : Nat) (X : Int), k ≤ s.size ∧ k ≤ 10 ∧ i = .int .i64 k ∧ n = .int .u64 X ∧ num s = rd X k (s.data.toList.drop k)) (fun _ i => s.size - (intOf i).toNat)
  case atStart => exact ⟨0, 0, by omega, by omega, rfl, rfl, rfl⟩
  case round =>
    obtain ⟨k, X, hk, hk10, rfl, rfl, hd⟩ := hrel
    have HD : Hid (num s = rd X k (s.data.toList.drop k)) := hd
    clear hd
    by_cases hlt : k < s.size
    · go_wp2
      · have h9 : (k : Int) = 9 := by assumption
        obtain rfl : k = 9 := by omega
        go_ret3
        exact ⟨by rw [takeOut_none (num_none HD.out hlt (by omega))]; rfl, Below.refl _ _⟩
      · have h9 : (k : Int) = 9 := by assumption
        obtain rfl : k = 9 := by omega
        have hz : ((s[9].toNat : Int) == 0) = true := by assumption
        have hz' := WalkArith.int_eq hz
        go_ret3
        exact ⟨by rw [takeOut_none (num_none HD.out hlt (by omega))]; rfl, Below.refl _ _⟩
      · have h9 : (k : Int) = 9 := by assumption
        obtain rfl : k = 9 := by omega
        have hz : ((s[9].toNat : Int) == 0) = false := by assumption
        have hz' := WalkArith.int_ne hz
        have H3 : Hid (takeOut s = _) := (takeOut_some (num_some HD.out hlt (by omega) (by omega) (by omega) (by omega))).trans (by rw [grp_nine _ _ (by omega)])
        clear HD
        go_region
        all_goals (go_wp2; go_ret3; exact ⟨by rw [H3.out]; rfl, (Below.refl _ _).drew⟩)
      · have hz : ((s[k].toNat : Int) == 0) = true := by assumption
        have hz' := WalkArith.int_eq hz
        go_ret3
        exact ⟨by rw [takeOut_none (num_none HD.out hlt (by omega))]; rfl, Below.refl _ _⟩
      · have hz : ((s[k].toNat : Int) == 0) = false := by assumption
        have hz' := WalkArith.int_ne hz
        have H3 : Hid (takeOut s = _) := takeOut_some (num_some HD.out hlt (by omega) (by omega) (by omega) (by omega))
        clear HD
        go_region
        all_goals (go_wp2; go_ret3; exact ⟨by rw [H3.out]; rfl, (Below.refl _ _).drew⟩)
      · have H3 : Hid (takeOut s = _) := takeOut_some (num_some HD.out hlt (by omega) (by omega) (by omega) (by omega))
        clear HD
        go_region
        all_goals (go_wp2; go_ret3; exact ⟨by rw [H3.out]; rfl, (Below.refl _ _).drew⟩)
      · go_round
        case rel => exact ⟨k + 1, _, by omega, by omega, by go_num, rfl, num_go HD.out hlt (by omega) (by omega) (by omega)⟩
        case measure => simp [intOf]; omega
      · go_ret3
        exact ⟨by rw [takeOut_none (num_ten HD.out (by omega))]; rfl, Below.refl _ _⟩
    · go_wp2
      go_ret3
      exact ⟨by rw [takeOut_none (num_end HD.out (by omega))]; rfl, Below.refl _ _⟩
end Go.Proofs.YtadimakdjndcdaeDoor
