/-
  The week of a time: the code's and the specification's.
-/
import Derived.Test.YtpolplemjaibgaaIn
namespace Go.Proofs.Ytpolplemjaibgaa
open Go.RowKit
set_option linter.unusedVariables false
def wkP (t : Int) : Prop := 0 ≤ t ∧ t ≤ 100000000000
instance (t : Int) : Decidable (wkP t) := by unfold wkP; exact inferInstance
def wkI (t : Int) : Int := if wkP t then (t / 86400 + 3) / 7 else -1
theorem wk_yes {t : Int} (h : wkP t) : wkI t = (t / 86400 + 3) / 7 := by unfold wkI; rw [if_pos h]
theorem wk_no {t : Int} (h : ¬ wkP t) : wkI t = -1 := by unfold wkI; rw [if_neg h]
set_option maxRecDepth 100000 in
theorem isTime_any (t : Int) (w : World) :
    Calls Try.prog 31 #[.int .i64 t] w fun e w' => e = .returned (.bool (decide (wkP t))) ∧ w' = w := by
  by_cases h1 : 0 ≤ t
  · by_cases h2 : t ≤ 100000000000
    · rw [show decide (wkP t) = true from decide_eq_true ⟨h1, h2⟩]
      go_enter Try.func31, Try.ntmps31
      go_wp2_with fail
      go_ret
      exact ⟨rfl, rfl⟩
    · rw [show decide (wkP t) = false from decide_eq_false (fun c => h2 c.2)]
      go_enter Try.func31, Try.ntmps31
      go_wp2_with fail
      go_ret
      exact ⟨rfl, rfl⟩
  · rw [show decide (wkP t) = false from decide_eq_false (fun c => h1 c.1)]
    go_enter Try.func31, Try.ntmps31
    go_wp2_with fail
    go_ret
    exact ⟨rfl, rfl⟩
set_option maxRecDepth 100000 in
theorem day_any (t : Int) (w : World) (h : wkP t) :
    Calls Try.prog 32 #[.int .i64 t] w fun e w' => e = .returned (.int .i64 (t / 86400)) ∧ w' = w := by
  obtain ⟨h1, h2⟩ := h
  have ht : t.tdiv 86400 = t / 86400 := Int.tdiv_eq_ediv_of_nonneg h1
  have hw : IntKind.i64.wrap (t / 86400) = t / 86400 := by rw [IntKind.wrap_i64]; omega
  go_enter Try.func32, Try.ntmps32
  go_wp2_with fail
  go_ret
  exact ⟨rfl, rfl⟩
set_option maxRecDepth 100000 in
theorem wk_any (t : Int) (w : World) :
    Calls Try.prog 13 #[.int .i64 t] w fun e w' => e = .returned (.int .i64 (wkI t)) ∧ w' = w := by
  have HA : Hid (∀ w, Calls Try.prog 31 #[.int .i64 t] w fun e w' => e = .returned (.bool (decide (wkP t))) ∧ w' = w) := fun w => isTime_any t w
  by_cases h : wkP t
  · rw [show decide (wkP t) = true from decide_eq_true h] at HA
    rw [wk_yes h]
    have HD : Hid (∀ w, Calls Try.prog 32 #[.int .i64 t] w fun e w' => e = .returned (.int .i64 (t / 86400)) ∧ w' = w) := fun w => day_any t w h
    obtain ⟨q, hq⟩ : ∃ q, q = t / 86400 := ⟨_, rfl⟩
    have hq1 : 0 ≤ q ∧ q ≤ 2000000 := by have := h.1; have := h.2; omega
    rw [← hq] at HD ⊢
    clear hq h
    obtain ⟨h1, h2⟩ := hq1
    have hw1 : IntKind.i64.wrap (q + 3) = q + 3 := by rw [IntKind.wrap_i64]; omega
    have ht : (q + 3).tdiv 7 = (q + 3) / 7 := Int.tdiv_eq_ediv_of_nonneg (by omega)
    have hw2 : IntKind.i64.wrap ((q + 3) / 7) = (q + 3) / 7 := by rw [IntKind.wrap_i64]; omega
    go_enter Try.func13, Try.ntmps13
    go_wp2_with fail
    refine (HA.out _).mono ?_
    rintro e w' ⟨rfl, hw⟩
    subst w'
    go_wp2_with fail
    refine (HD.out _).mono ?_
    rintro e w' ⟨rfl, hw⟩
    subst w'
    go_wp2_with fail
    go_ret
    exact ⟨rfl, rfl⟩
  · rw [show decide (wkP t) = false from decide_eq_false h] at HA
    rw [wk_no h]
    clear h
    go_enter Try.func13, Try.ntmps13
    go_wp2_with fail
    refine (HA.out _).mono ?_
    rintro e w' ⟨rfl, hw⟩
    subst w'
    go_wp2_with fail
    go_ret
    exact ⟨rfl, rfl⟩
set_option maxRecDepth 100000 in
theorem swk_any (t : Int) (w : World) :
    Calls Try.prog 12 #[.int .i64 t] w fun e w' => e = .returned (.int .i64 (wkI t)) ∧ w' = w := by
  by_cases h : wkP t
  · rw [wk_yes h]
    have HA : Hid (∀ w, Calls Try.prog 30 #[.int .i64 t, .int .i64 0, .int .i64 100000000000] w fun e w' => e = .returned (.bool true) ∧ w' = w) := fun w => in_yes t 0 100000000000 w h.1 h.2
    obtain ⟨h1, h2⟩ := h
    have ht0 : t.tdiv 86400 = t / 86400 := Int.tdiv_eq_ediv_of_nonneg h1
    have hw0 : IntKind.i64.wrap (t / 86400) = t / 86400 := by rw [IntKind.wrap_i64]; omega
    have hw1 : IntKind.i64.wrap (t / 86400 + 3) = t / 86400 + 3 := by rw [IntKind.wrap_i64]; omega
    have ht : (t / 86400 + 3).tdiv 7 = (t / 86400 + 3) / 7 := Int.tdiv_eq_ediv_of_nonneg (by omega)
    have hw2 : IntKind.i64.wrap ((t / 86400 + 3) / 7) = (t / 86400 + 3) / 7 := by rw [IntKind.wrap_i64]; omega
    go_enter Try.func12, Try.ntmps12
    go_wp2_with fail
    refine (HA.out _).mono ?_
    rintro e w' ⟨rfl, hw⟩
    subst w'
    go_wp2_with fail
    go_ret
    exact ⟨rfl, rfl⟩
  · rw [wk_no h]
    have HA : Hid (∀ w, Calls Try.prog 30 #[.int .i64 t, .int .i64 0, .int .i64 100000000000] w fun e w' => e = .returned (.bool false) ∧ w' = w) := fun w => in_no t 0 100000000000 w h
    clear h
    go_enter Try.func12, Try.ntmps12
    go_wp2_with fail
    refine (HA.out _).mono ?_
    rintro e w' ⟨rfl, hw⟩
    subst w'
    go_wp2_with fail
    go_ret
    exact ⟨rfl, rfl⟩
end Go.Proofs.Ytpolplemjaibgaa
