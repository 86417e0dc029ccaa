/-
  Whether a token may stand where it does: the specification's; and what the law makes of a token that came in.
-/
import Derived.Test.YtnkahdidelhdaacTok
namespace Go.Proofs.Ytnkahdidelhdaac
open Go.RowKit
set_option linter.unusedVariables false
set_option maxRecDepth 100000 in
set_option maxHeartbeats 1000000 in
theorem stok_yes (k b d l h : Int) (w : World) (hp : tokP k b d l h) :
    Calls Try.prog 49 #[tokV k b d l, .int .i64 h] w fun e w' => e = .returned (.bool true) ∧ Below w.heap.size w w' := by
  unfold tokV
  obtain ⟨h0, ⟨rfl, h1, h2, rfl, rfl⟩ | ⟨rfl, rfl, h1, h2, h3, h4, h5⟩⟩ := hp
  · have hh : ¬ h < 0 := by omega
    have HA : Hid (∀ w, Calls Try.prog 35 #[.int .i64 b, .int .i64 0, .int .i64 255] w fun e w' => e = .returned (.bool true) ∧ w' = w) := fun w => in_yes b 0 255 w h1 h2
    go_enter Try.func49, Try.ntmps49
    go_wp2_with fail
    refine (HA.out _).mono ?_
    rintro e w' ⟨rfl, hw⟩
    subst w'
    go_wp2_with fail
    all_goals (go_ret; exact ⟨rfl, (Below.refl _ _).alloc (Nat.le_refl _) _⟩)
  · have hh : ¬ h < 0 := by omega
    obtain ⟨mn, hmn⟩ : ∃ mn, min h 4096 = mn := ⟨_, rfl⟩
    have HA : Hid (∀ w, Calls Try.prog 35 #[.int .i64 d, .int .i64 1, .int .i64 mn] w fun e w' => e = .returned (.bool true) ∧ w' = w) := fun w => in_yes d 1 mn w h1 (by omega)
    have HB : Hid (∀ w, Calls Try.prog 35 #[.int .i64 l, .int .i64 3, .int .i64 66] w fun e w' => e = .returned (.bool true) ∧ w' = w) := fun w => in_yes l 3 66 w h4 h5
    by_cases hm : 4096 < h
    · obtain rfl : mn = 4096 := by omega
      go_enter Try.func49, Try.ntmps49
      go_wp2_with fail
      refine (HA.out _).mono ?_
      rintro e w' ⟨rfl, hw⟩
      subst w'
      go_wp2_with fail
      refine (HB.out _).mono ?_
      rintro e w' ⟨rfl, hw⟩
      subst w'
      go_wp2_with fail
      all_goals (go_ret; exact ⟨rfl, (Below.refl _ _).alloc (Nat.le_refl _) _⟩)
    · by_cases hm2 : h = 4096
      · subst hm2
        obtain rfl : mn = 4096 := by omega
        go_enter Try.func49, Try.ntmps49
        go_wp2_with fail
        refine (HA.out _).mono ?_
        rintro e w' ⟨rfl, hw⟩
        subst w'
        go_wp2_with fail
        refine (HB.out _).mono ?_
        rintro e w' ⟨rfl, hw⟩
        subst w'
        go_wp2_with fail
        all_goals (go_ret; exact ⟨rfl, (Below.refl _ _).alloc (Nat.le_refl _) _⟩)
      · obtain rfl : mn = h := by omega
        go_enter Try.func49, Try.ntmps49
        go_wp2_with fail
        refine (HA.out _).mono ?_
        rintro e w' ⟨rfl, hw⟩
        subst w'
        go_wp2_with fail
        refine (HB.out _).mono ?_
        rintro e w' ⟨rfl, hw⟩
        subst w'
        go_wp2_with fail
        all_goals (go_ret; exact ⟨rfl, (Below.refl _ _).alloc (Nat.le_refl _) _⟩)
set_option maxRecDepth 100000 in
set_option maxHeartbeats 4000000 in
theorem stok_no (k b d l h : Int) (w : World) (hp : ¬ tokP k b d l h) :
    Calls Try.prog 49 #[tokV k b d l, .int .i64 h] w fun e w' => e = .returned (.bool false) ∧ Below w.heap.size w w' := by
  unfold tokV
  unfold tokP at hp
  by_cases hh : h < 0
  · clear hp
    go_enter Try.func49, Try.ntmps49
    go_wp2_with fail
    all_goals (go_ret; exact ⟨rfl, (Below.refl _ _).alloc (Nat.le_refl _) _⟩)
  by_cases hk : k = 0
  · subst hk
    by_cases c0 : 0 ≤ b ∧ b ≤ 255
    · have HA : Hid (∀ w, Calls Try.prog 35 #[.int .i64 b, .int .i64 0, .int .i64 255] w fun e w' => e = .returned (.bool true) ∧ w' = w) := fun w => in_yes b 0 255 w c0.1 c0.2
      by_cases c3 : d = 0 <;> by_cases c4 : l = 0
      all_goals first
        | (exfalso; omega)
        | (clear hp
           try have e3 := beq_eq_false_iff_ne.2 c3
           try have e4 := beq_eq_false_iff_ne.2 c4
           go_enter Try.func49, Try.ntmps49
           go_wp2_with fail
           refine (HA.out _).mono ?_
           rintro e w' ⟨rfl, hw⟩
           subst w'
           go_wp2_with fail
           all_goals (go_ret; exact ⟨rfl, (Below.refl _ _).alloc (Nat.le_refl _) _⟩))
    · have HA : Hid (∀ w, Calls Try.prog 35 #[.int .i64 b, .int .i64 0, .int .i64 255] w fun e w' => e = .returned (.bool false) ∧ w' = w) := fun w => in_no b 0 255 w c0
      clear hp
      go_enter Try.func49, Try.ntmps49
      go_wp2_with fail
      refine (HA.out _).mono ?_
      rintro e w' ⟨rfl, hw⟩
      subst w'
      go_wp2_with fail
      all_goals (go_ret; exact ⟨rfl, (Below.refl _ _).alloc (Nat.le_refl _) _⟩)
  by_cases hk1 : k = 1
  · subst hk1
    by_cases c1 : b = 0
    · obtain ⟨mn, hmn⟩ : ∃ mn, min h 4096 = mn := ⟨_, rfl⟩
      by_cases c2 : 1 ≤ d ∧ d ≤ mn
      · have c5 : ¬ (3 ≤ l ∧ l ≤ 66) := by omega
        have HA : Hid (∀ w, Calls Try.prog 35 #[.int .i64 d, .int .i64 1, .int .i64 mn] w fun e w' => e = .returned (.bool true) ∧ w' = w) := fun w => in_yes d 1 mn w c2.1 c2.2
        have HB : Hid (∀ w, Calls Try.prog 35 #[.int .i64 l, .int .i64 3, .int .i64 66] w fun e w' => e = .returned (.bool false) ∧ w' = w) := fun w => in_no l 3 66 w c5
        clear hp
        by_cases hm : 4096 < h
        · obtain rfl : mn = 4096 := by omega
          go_enter Try.func49, Try.ntmps49
          go_wp2_with fail
          refine (HA.out _).mono ?_
          rintro e w' ⟨rfl, hw⟩
          subst w'
          go_wp2_with fail
          refine (HB.out _).mono ?_
          rintro e w' ⟨rfl, hw⟩
          subst w'
          go_wp2_with fail
          all_goals (go_ret; exact ⟨rfl, (Below.refl _ _).alloc (Nat.le_refl _) _⟩)
        · by_cases hm2 : h = 4096
          · subst hm2
            obtain rfl : mn = 4096 := by omega
            go_enter Try.func49, Try.ntmps49
            go_wp2_with fail
            refine (HA.out _).mono ?_
            rintro e w' ⟨rfl, hw⟩
            subst w'
            go_wp2_with fail
            refine (HB.out _).mono ?_
            rintro e w' ⟨rfl, hw⟩
            subst w'
            go_wp2_with fail
            all_goals (go_ret; exact ⟨rfl, (Below.refl _ _).alloc (Nat.le_refl _) _⟩)
          · obtain rfl : mn = h := by omega
            go_enter Try.func49, Try.ntmps49
            go_wp2_with fail
            refine (HA.out _).mono ?_
            rintro e w' ⟨rfl, hw⟩
            subst w'
            go_wp2_with fail
            refine (HB.out _).mono ?_
            rintro e w' ⟨rfl, hw⟩
            subst w'
            go_wp2_with fail
            all_goals (go_ret; exact ⟨rfl, (Below.refl _ _).alloc (Nat.le_refl _) _⟩)
      · have HA : Hid (∀ w, Calls Try.prog 35 #[.int .i64 d, .int .i64 1, .int .i64 mn] w fun e w' => e = .returned (.bool false) ∧ w' = w) := fun w => in_no d 1 mn w c2
        clear hp
        by_cases hm : 4096 < h
        · obtain rfl : mn = 4096 := by omega
          go_enter Try.func49, Try.ntmps49
          go_wp2_with fail
          refine (HA.out _).mono ?_
          rintro e w' ⟨rfl, hw⟩
          subst w'
          go_wp2_with fail
          all_goals (go_ret; exact ⟨rfl, (Below.refl _ _).alloc (Nat.le_refl _) _⟩)
        · by_cases hm2 : h = 4096
          · subst hm2
            obtain rfl : mn = 4096 := by omega
            go_enter Try.func49, Try.ntmps49
            go_wp2_with fail
            refine (HA.out _).mono ?_
            rintro e w' ⟨rfl, hw⟩
            subst w'
            go_wp2_with fail
            all_goals (go_ret; exact ⟨rfl, (Below.refl _ _).alloc (Nat.le_refl _) _⟩)
          · obtain rfl : mn = h := by omega
            go_enter Try.func49, Try.ntmps49
            go_wp2_with fail
            refine (HA.out _).mono ?_
            rintro e w' ⟨rfl, hw⟩
            subst w'
            go_wp2_with fail
            all_goals (go_ret; exact ⟨rfl, (Below.refl _ _).alloc (Nat.le_refl _) _⟩)
    · clear hp
      have e1 := beq_eq_false_iff_ne.2 c1
      go_enter Try.func49, Try.ntmps49
      go_wp2_with fail
      all_goals (go_ret; exact ⟨rfl, (Below.refl _ _).alloc (Nat.le_refl _) _⟩)
  · clear hp
    have e1 := beq_eq_false_iff_ne.2 hk
    have e2 := beq_eq_false_iff_ne.2 hk1
    go_enter Try.func49, Try.ntmps49
    go_wp2_with fail
    all_goals (go_ret; exact ⟨rfl, (Below.refl _ _).alloc (Nat.le_refl _) _⟩)
end Go.Proofs.Ytnkahdidelhdaac
