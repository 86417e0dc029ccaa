/-
  Whether a token may stand where it does: the code's and the specification's.
-/
import Derived.Test.YtibciflmalfbjaaIn
import Derived.Below
namespace Go.Proofs.Ytibciflmalfbjaa
open Go.RowKit
set_option linter.unusedVariables false
def tokP (k b d l h : Int) : Prop := 0 ≤ h ∧ ((k = 0 ∧ 0 ≤ b ∧ b ≤ 255 ∧ d = 0 ∧ l = 0) ∨ (k = 1 ∧ b = 0 ∧ 1 ≤ d ∧ d ≤ 4096 ∧ d ≤ h ∧ 3 ≤ l ∧ l ≤ 66))
def tokV (k b d l : Int) : Value := .agg #[.int .i64 k, .int .i64 b, .int .i64 d, .int .i64 l]
set_option maxRecDepth 100000 in
set_option maxHeartbeats 1000000 in
theorem tok_yes (k b d l h : Int) (w : World) (hp : tokP k b d l h) :
    Calls Try.prog 54 #[tokV k b d l, .int .i64 h] w fun e w' => e = .returned (.bool true) ∧ Below w.heap.size w w' := by
  unfold tokV
  obtain ⟨h0, ⟨rfl, h1, h2, rfl, rfl⟩ | ⟨rfl, rfl, h1, h2, h3, h4, h5⟩⟩ := hp
  · have hh : ¬ h < 0 := by omega
    go_enter Try.func54, Try.ntmps54
    go_wp2_with fail
    go_ret
    exact ⟨rfl, (Below.refl _ _).alloc (Nat.le_refl _) _⟩
  · have hh : ¬ h < 0 := by omega
    go_enter Try.func54, Try.ntmps54
    by_cases hm : 4096 ≤ h
    · have hmn : min (4096 : Int) h = 4096 := by omega
      go_wp2_with fail
      go_ret
      exact ⟨rfl, (Below.refl _ _).alloc (Nat.le_refl _) _⟩
    · have hmn : min (4096 : Int) h = h := by omega
      go_wp2_with fail
      go_ret
      exact ⟨rfl, (Below.refl _ _).alloc (Nat.le_refl _) _⟩
set_option maxRecDepth 100000 in
set_option maxHeartbeats 4000000 in
theorem tok_no (k b d l h : Int) (w : World) (hp : ¬ tokP k b d l h) :
    Calls Try.prog 54 #[tokV k b d l, .int .i64 h] w fun e w' => e = .returned (.bool false) ∧ Below w.heap.size w w' := by
  unfold tokV
  unfold tokP at hp
  by_cases hh : h < 0
  · clear hp
    go_enter Try.func54, Try.ntmps54
    go_wp2_with fail
    all_goals (go_ret; exact ⟨rfl, (Below.refl _ _).alloc (Nat.le_refl _) _⟩)
  by_cases hk : k = 0
  · subst hk
    by_cases c1 : 0 ≤ b <;> by_cases c2 : b ≤ 255 <;> by_cases c3 : d = 0 <;> by_cases c4 : l = 0
    all_goals first
      | (exfalso; omega)
      | (clear hp
         try have e3 := beq_eq_false_iff_ne.2 c3
         try have e4 := beq_eq_false_iff_ne.2 c4
         go_enter Try.func54, Try.ntmps54
         go_wp2_with fail
         all_goals (go_ret; exact ⟨rfl, (Below.refl _ _).alloc (Nat.le_refl _) _⟩))
  by_cases hk1 : k = 1
  · subst hk1
    by_cases c1 : b = 0
    · by_cases c2 : 1 ≤ d
      · by_cases c3 : d ≤ min 4096 h
        · by_cases c4 : 3 ≤ l
          · have c5 : ¬ l ≤ 66 := by omega
            clear hp
            go_enter Try.func54, Try.ntmps54
            go_wp2_with fail
            all_goals (go_ret; exact ⟨rfl, (Below.refl _ _).alloc (Nat.le_refl _) _⟩)
          · clear hp
            go_enter Try.func54, Try.ntmps54
            go_wp2_with fail
            all_goals (go_ret; exact ⟨rfl, (Below.refl _ _).alloc (Nat.le_refl _) _⟩)
        · clear hp
          go_enter Try.func54, Try.ntmps54
          go_wp2_with fail
          all_goals (go_ret; exact ⟨rfl, (Below.refl _ _).alloc (Nat.le_refl _) _⟩)
      · clear hp
        go_enter Try.func54, Try.ntmps54
        go_wp2_with fail
        all_goals (go_ret; exact ⟨rfl, (Below.refl _ _).alloc (Nat.le_refl _) _⟩)
    · clear hp
      have e1 := beq_eq_false_iff_ne.2 c1
      go_enter Try.func54, Try.ntmps54
      go_wp2_with fail
      all_goals (go_ret; exact ⟨rfl, (Below.refl _ _).alloc (Nat.le_refl _) _⟩)
  · clear hp
    have e1 := beq_eq_false_iff_ne.2 hk
    have e2 := beq_eq_false_iff_ne.2 hk1
    go_enter Try.func54, Try.ntmps54
    go_wp2_with fail
    all_goals (go_ret; exact ⟨rfl, (Below.refl _ _).alloc (Nat.le_refl _) _⟩)
end Go.Proofs.Ytibciflmalfbjaa
