/-
  What 'big' answers: whether there are more than 2^20 bytes.
-/
import Derived.Test.YtbmcjoaigajjkaaDoorRows
import Derived.WalkKit
import Derived.WalkSpells
namespace Go.Proofs.YtbmcjoaigajjkaaDoor
open Go.RowKit
theorem big_yes (a : Option Addr) (len cap : Nat) (w : World) (h : 1048576 < len) :
    Calls Tryd.prog 5 #[.slice a len cap] w fun e w' => e = .returned (.bool true) ∧ w' = w := by
  have hb : decide ((1048576 : Int) < (len : Int)) = true := by simp; omega
  go_enter Tryd.func5, Tryd.ntmps5
  go_wp2
  go_ret
  exact ⟨by first | rfl | (rw [← hb]; rfl), rfl⟩
theorem big_no (a : Option Addr) (len cap : Nat) (w : World) (h : ¬ 1048576 < len) :
    Calls Tryd.prog 5 #[.slice a len cap] w fun e w' => e = .returned (.bool false) ∧ w' = w := by
  have hb : decide ((1048576 : Int) < (len : Int)) = false := by simp; omega
  go_enter Tryd.func5, Tryd.ntmps5
  go_wp2
  go_ret
  exact ⟨by first | rfl | (rw [← hb]; rfl), rfl⟩
end Go.Proofs.YtbmcjoaigajjkaaDoor
