/-
  Count of what has wrong sizes.
-/
import Derived.Test.YtnkahdidelhdaacGreatDoorCntS
namespace Go.Proofs.YtnkahdidelhdaacGreatDoor
open Go.RowKit
set_option linter.unusedVariables false

set_option maxRecDepth 100000 in
theorem count_no (k nonce d : ByteArray) (w : World) (h : ¬ (k.size = 32 ∧ nonce.size = 12 ∧ d.size ≤ 60000)) :
    Calls Tryz.prog 51 #[.string k, .string nonce, .string d] w fun e w' => e = .returned (.tuple #[.string ⟨#[]⟩, .bool false]) ∧ w' = w := by
  by_cases hk : k.size = 32
  · have h1 : (k.size : Int) = 32 := by omega
    by_cases hn : nonce.size = 12
    · have h2 : (nonce.size : Int) = 12 := by omega
      have h3 : (60000 : Int) < (d.size : Int) := by omega
      clear h hk hn
      go_enter Tryz.func51, Tryz.ntmps51
      go_wp2_with fail
      go_ret2
      exact ⟨rfl, rfl⟩
    · have h2 : ¬ (nonce.size : Int) = 12 := by omega
      have h3 : ((nonce.size : Int) != 12) = true := by simp; omega
      clear h hk hn
      go_enter Tryz.func51, Tryz.ntmps51
      go_wp2_with fail
      go_ret2
      exact ⟨rfl, rfl⟩
  · have h1 : ¬ (k.size : Int) = 32 := by omega
    have h3 : ((k.size : Int) != 32) = true := by simp; omega
    clear h hk
    go_enter Tryz.func51, Tryz.ntmps51
    go_wp2_with fail
    go_ret2
    exact ⟨rfl, rfl⟩
set_option maxRecDepth 100000 in
theorem scount_no (k nonce d : ByteArray) (w : World) (h : ¬ (k.size = 32 ∧ nonce.size = 12 ∧ d.size ≤ 60000)) :
    Calls Tryz.prog 20 #[.string k, .string nonce, .string d] w fun e w' => e = .returned (.tuple #[.string ⟨#[]⟩, .bool false]) ∧ w' = w := by
  by_cases hk : k.size = 32
  · have h1 : (k.size : Int) = 32 := by omega
    by_cases hn : nonce.size = 12
    · have h2 : (nonce.size : Int) = 12 := by omega
      have h3 : (60000 : Int) < (d.size : Int) := by omega
      clear h hk hn
      go_enter Tryz.func20, Tryz.ntmps20
      go_wp2_with fail
      go_ret2
      exact ⟨rfl, rfl⟩
    · have h2 : ¬ (nonce.size : Int) = 12 := by omega
      have h3 : ((nonce.size : Int) != 12) = true := by simp; omega
      clear h hk hn
      go_enter Tryz.func20, Tryz.ntmps20
      go_wp2_with fail
      go_ret2
      exact ⟨rfl, rfl⟩
  · have h1 : ¬ (k.size : Int) = 32 := by omega
    have h3 : ((k.size : Int) != 32) = true := by simp; omega
    clear h hk
    go_enter Tryz.func20, Tryz.ntmps20
    go_wp2_with fail
    go_ret2
    exact ⟨rfl, rfl⟩
end Go.Proofs.YtnkahdidelhdaacGreatDoor
