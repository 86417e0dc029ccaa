/-
  Whether a shape is right: the code's and the specification's.
-/
import Derived.Test.YtpolplemjaibgaaIn
import Derived.Below
namespace Go.Proofs.Ytpolplemjaibgaa
open Go.RowKit
set_option linter.unusedVariables false
def shpP (l b m : Int) : Prop := (1 ≤ l ∧ l ≤ 1000) ∧ (1 ≤ b ∧ b ≤ 12) ∧ (l ≤ m ∧ m ≤ 4000)
def shpV (l b m : Int) : Value := .agg #[.int .i64 l, .int .i64 b, .int .i64 m]
set_option maxRecDepth 100000 in
set_option maxHeartbeats 2000000 in
theorem shp_yes (l b m : Int) (w : World) (hp : shpP l b m) :
    Calls Try.prog 43 #[shpV l b m] w fun e w' => e = .returned (.bool true) ∧ Below w.heap.size w w' := by
  unfold shpV
  obtain ⟨⟨h1, h2⟩, ⟨h3, h4⟩, h5, h6⟩ := hp
  go_enter Try.func43, Try.ntmps43
  go_wp2_with fail
  go_ret
  exact ⟨rfl, (Below.refl _ _).alloc (Nat.le_refl _) _⟩
set_option maxRecDepth 100000 in
set_option maxHeartbeats 4000000 in
theorem shp_no (l b m : Int) (w : World) (hp : ¬ shpP l b m) :
    Calls Try.prog 43 #[shpV l b m] w fun e w' => e = .returned (.bool false) ∧ Below w.heap.size w w' := by
  unfold shpV
  unfold shpP at hp
  have go : (¬ 1 ≤ l) ∨ (1 ≤ l ∧ ¬ l ≤ 1000) ∨ (1 ≤ l ∧ l ≤ 1000 ∧ ¬ 1 ≤ b) ∨ (1 ≤ l ∧ l ≤ 1000 ∧ 1 ≤ b ∧ ¬ b ≤ 12) ∨ (1 ≤ l ∧ l ≤ 1000 ∧ 1 ≤ b ∧ b ≤ 12 ∧ ¬ l ≤ m) ∨ (1 ≤ l ∧ l ≤ 1000 ∧ 1 ≤ b ∧ b ≤ 12 ∧ l ≤ m ∧ ¬ m ≤ 4000) := by omega
  clear hp
  rcases go with h1 | ⟨h1, h2⟩ | ⟨h1, h2, h3⟩ | ⟨h1, h2, h3, h4⟩ | ⟨h1, h2, h3, h4, h5⟩ | ⟨h1, h2, h3, h4, h5, h6⟩
  all_goals
    go_enter Try.func43, Try.ntmps43
    go_wp2_with fail
    go_ret
    exact ⟨rfl, (Below.refl _ _).alloc (Nat.le_refl _) _⟩
set_option maxRecDepth 100000 in
set_option maxHeartbeats 2000000 in
theorem sshp_yes (l b m : Int) (w : World) (hp : shpP l b m) :
    Calls Try.prog 42 #[shpV l b m] w fun e w' => e = .returned (.bool true) ∧ Below w.heap.size w w' := by
  unfold shpV
  obtain ⟨⟨h1, h2⟩, ⟨h3, h4⟩, h5, h6⟩ := hp
  have HA : Hid (∀ w, Calls Try.prog 30 #[.int .i64 l, .int .i64 1, .int .i64 1000] w fun e w' => e = .returned (.bool true) ∧ w' = w) := fun w => in_yes l 1 1000 w h1 h2
  have HB : Hid (∀ w, Calls Try.prog 30 #[.int .i64 b, .int .i64 1, .int .i64 12] w fun e w' => e = .returned (.bool true) ∧ w' = w) := fun w => in_yes b 1 12 w h3 h4
  have HC : Hid (∀ w, Calls Try.prog 30 #[.int .i64 m, .int .i64 l, .int .i64 4000] w fun e w' => e = .returned (.bool true) ∧ w' = w) := fun w => in_yes m l 4000 w h5 h6
  clear h1 h2 h3 h4 h5 h6
  go_enter Try.func42, Try.ntmps42
  go_wp2_with fail
  refine (HA.out _).mono ?_
  rintro e w' ⟨rfl, hw⟩
  subst w'
  go_wp2_with fail
  refine (HB.out _).mono ?_
  rintro e w' ⟨rfl, hw⟩
  subst w'
  go_wp2_with fail
  refine (HC.out _).mono ?_
  rintro e w' ⟨rfl, hw⟩
  subst w'
  go_wp2_with fail
  go_ret
  exact ⟨rfl, (Below.refl _ _).alloc (Nat.le_refl _) _⟩
set_option maxRecDepth 100000 in
set_option maxHeartbeats 2000000 in
theorem sshp_no (l b m : Int) (w : World) (hp : ¬ shpP l b m) :
    Calls Try.prog 42 #[shpV l b m] w fun e w' => e = .returned (.bool false) ∧ Below w.heap.size w w' := by
  unfold shpV
  unfold shpP at hp
  by_cases h1 : 1 ≤ l ∧ l ≤ 1000
  · have HA : Hid (∀ w, Calls Try.prog 30 #[.int .i64 l, .int .i64 1, .int .i64 1000] w fun e w' => e = .returned (.bool true) ∧ w' = w) := fun w => in_yes l 1 1000 w h1.1 h1.2
    by_cases h2 : 1 ≤ b ∧ b ≤ 12
    · have HB : Hid (∀ w, Calls Try.prog 30 #[.int .i64 b, .int .i64 1, .int .i64 12] w fun e w' => e = .returned (.bool true) ∧ w' = w) := fun w => in_yes b 1 12 w h2.1 h2.2
      have HC : Hid (∀ w, Calls Try.prog 30 #[.int .i64 m, .int .i64 l, .int .i64 4000] w fun e w' => e = .returned (.bool false) ∧ w' = w) := fun w => in_no m l 4000 w (by omega)
      clear hp h1 h2
      go_enter Try.func42, Try.ntmps42
      go_wp2_with fail
      refine (HA.out _).mono ?_
      rintro e w' ⟨rfl, hw⟩
      subst w'
      go_wp2_with fail
      refine (HB.out _).mono ?_
      rintro e w' ⟨rfl, hw⟩
      subst w'
      go_wp2_with fail
      refine (HC.out _).mono ?_
      rintro e w' ⟨rfl, hw⟩
      subst w'
      go_wp2_with fail
      go_ret
      exact ⟨rfl, (Below.refl _ _).alloc (Nat.le_refl _) _⟩
    · have HB : Hid (∀ w, Calls Try.prog 30 #[.int .i64 b, .int .i64 1, .int .i64 12] w fun e w' => e = .returned (.bool false) ∧ w' = w) := fun w => in_no b 1 12 w h2
      clear hp h1 h2
      go_enter Try.func42, Try.ntmps42
      go_wp2_with fail
      refine (HA.out _).mono ?_
      rintro e w' ⟨rfl, hw⟩
      subst w'
      go_wp2_with fail
      refine (HB.out _).mono ?_
      rintro e w' ⟨rfl, hw⟩
      subst w'
      go_wp2_with fail
      go_ret
      exact ⟨rfl, (Below.refl _ _).alloc (Nat.le_refl _) _⟩
  · have HA : Hid (∀ w, Calls Try.prog 30 #[.int .i64 l, .int .i64 1, .int .i64 1000] w fun e w' => e = .returned (.bool false) ∧ w' = w) := fun w => in_no l 1 1000 w h1
    clear hp h1
    go_enter Try.func42, Try.ntmps42
    go_wp2_with fail
    refine (HA.out _).mono ?_
    rintro e w' ⟨rfl, hw⟩
    subst w'
    go_wp2_with fail
    go_ret
    exact ⟨rfl, (Below.refl _ _).alloc (Nat.le_refl _) _⟩
end Go.Proofs.Ytpolplemjaibgaa
