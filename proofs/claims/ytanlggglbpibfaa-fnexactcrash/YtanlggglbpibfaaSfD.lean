/-
  The specification's ops: whether one is of its form; the files behind it.
-/
import Derived.Test.YtanlggglbpibfaaSfC
import Derived.Test.YtanlggglbpibfaaHeld
import Derived.Test.YtanlggglbpibfaaIn
namespace Go.Proofs.Ytanlggglbpibfaa
open Go.RowKit
set_option linter.unusedVariables false
set_option linter.unusedSimpArgs false
theorem emF_nil : (⟨#[]⟩ : ByteArray).toList = [] := by rw [Lib.toList_data]
theorem emF_yes : (⟨#[]⟩ : ByteArray).toList.isEmpty = true := by rw [emF_nil]; rfl
theorem emF_no {s : ByteArray} (h : s ≠ ⟨#[]⟩) : s.toList.isEmpty = false := by
  cases hs : s.toList with
  | nil =>
    exact absurd (bl_inj (b := ⟨#[]⟩) (by rw [hs, emF_nil])) h
  | cons a l => rfl
theorem emF_eq {s : ByteArray} (h : s ≠ ⟨#[]⟩) : (s.toList == []) = false := by
  have := emF_no h
  cases hs : s.toList with
  | nil => rw [hs] at this; cases this
  | cons a l => rfl
theorem not_opP_m {m : Int} {a p d : ByteArray} (h : ¬ (1 ≤ m ∧ m ≤ 3)) : ¬ opP ⟨m, a, p, d⟩ := fun k => h k.1
set_option maxRecDepth 100000 in
set_option maxHeartbeats 1000000 in
theorem sform_any (m : Int) (a p d : ByteArray) (w : World) :
    Calls Try.prog 44 #[dqV m a p d] w fun e w' => e = .returned (.bool (decide (opP ⟨m, a, p, d⟩))) ∧ Below w.heap.size w w' := by
  have HNM : Hid (∀ (s : ByteArray) (w : World), Calls Try.prog 80 #[.string s] w fun e w' => e = .returned (.bool (decide (nmOk s))) ∧ w' = w) := sname_any
  have HB : Hid (Below w.heap.size w (w.alloc (.cells #[.int .i64 m, .string a, .string p, .string d] 36))) := (Below.refl _ _).alloc (Nat.le_refl _) _
  unfold dqV
  by_cases h1 : 1 ≤ m ∧ m ≤ 3
  rotate_left
  · rw [decide_eq_false (not_opP_m h1)]
    have HIN : Hid (∀ w, Calls Try.prog 76 #[.int .i64 m, .int .i64 1, .int .i64 3] w fun e w' => e = .returned (.bool false) ∧ w' = w) := fun w => in_no m 1 3 w h1
    clear h1
    go_enter Try.func44, Try.ntmps44
    go_wp2_with fail
    refine (HIN.out _).mono ?_
    rintro e w1 ⟨rfl, hw⟩
    subst w1
    go_wp2_with fail
    go_ret
    exact ⟨rfl, HB.out⟩
  have HIN : Hid (∀ w, Calls Try.prog 76 #[.int .i64 m, .int .i64 1, .int .i64 3] w fun e w' => e = .returned (.bool true) ∧ w' = w) := fun w => in_yes m 1 3 w h1.1 h1.2
  by_cases h2 : nmOk a
  rotate_left
  · rw [decide_eq_false (fun k => h2 k.2.1)]
    have HNA : Hid (∀ w, Calls Try.prog 80 #[.string a] w fun e w' => e = .returned (.bool false) ∧ w' = w) := fun w => by have := HNM.out a w; rwa [decide_eq_false h2] at this
    clear h1 h2
    go_enter Try.func44, Try.ntmps44
    go_wp2_with fail
    refine (HIN.out _).mono ?_
    rintro e w1 ⟨rfl, hw⟩
    subst w1
    go_wp2_with fail
    refine (HNA.out _).mono ?_
    rintro e w1 ⟨rfl, hw⟩
    subst w1
    go_wp2_with fail
    go_ret
    exact ⟨rfl, HB.out⟩
  have HNA : Hid (∀ w, Calls Try.prog 80 #[.string a] w fun e w' => e = .returned (.bool true) ∧ w' = w) := fun w => by have := HNM.out a w; rwa [decide_eq_true h2] at this
  by_cases h3 : m = 2
  · subst h3
    by_cases h4 : nmOk p
    rotate_left
    · rw [decide_eq_false (fun k => h4 (by have := k.2.2; rw [if_pos rfl] at this; exact this.1))]
      have HNP : Hid (∀ w, Calls Try.prog 80 #[.string p] w fun e w' => e = .returned (.bool false) ∧ w' = w) := fun w => by have := HNM.out p w; rwa [decide_eq_false h4] at this
      clear h1 h2 h4
      go_enter Try.func44, Try.ntmps44
      go_wp2_with fail
      refine (HIN.out _).mono ?_
      rintro e w1 ⟨rfl, hw⟩
      subst w1
      go_wp2_with fail
      refine (HNA.out _).mono ?_
      rintro e w1 ⟨rfl, hw⟩
      subst w1
      go_wp2_with fail
      refine (HNP.out _).mono ?_
      rintro e w1 ⟨rfl, hw⟩
      subst w1
      go_wp2_with fail
      go_ret
      exact ⟨rfl, HB.out⟩
    have HNP : Hid (∀ w, Calls Try.prog 80 #[.string p] w fun e w' => e = .returned (.bool true) ∧ w' = w) := fun w => by have := HNM.out p w; rwa [decide_eq_true h4] at this
    by_cases h5 : d = ⟨#[]⟩
    · subst h5
      rw [decide_eq_true ⟨h1, h2, by rw [if_pos rfl]; exact ⟨h4, rfl⟩⟩]
      clear h1 h2 h4
      go_enter Try.func44, Try.ntmps44
      go_wp2_with fail
      refine (HIN.out _).mono ?_
      rintro e w1 ⟨rfl, hw⟩
      subst w1
      go_wp2_with fail
      refine (HNA.out _).mono ?_
      rintro e w1 ⟨rfl, hw⟩
      subst w1
      go_wp2_with fail
      refine (HNP.out _).mono ?_
      rintro e w1 ⟨rfl, hw⟩
      subst w1
      go_wp2_with fail
      go_ret
      exact ⟨rfl, HB.out⟩
    · rw [decide_eq_false (fun k => h5 (by have := k.2.2; rw [if_pos rfl] at this; exact this.2))]
      have e1 := emF_no h5
      have e2 := emF_eq h5
      clear h1 h2 h4 h5
      go_enter Try.func44, Try.ntmps44
      go_wp2_with fail
      refine (HIN.out _).mono ?_
      rintro e w1 ⟨rfl, hw⟩
      subst w1
      go_wp2_with fail
      refine (HNA.out _).mono ?_
      rintro e w1 ⟨rfl, hw⟩
      subst w1
      go_wp2_with fail
      refine (HNP.out _).mono ?_
      rintro e w1 ⟨rfl, hw⟩
      subst w1
      go_wp2_with fail
      go_ret
      exact ⟨rfl, HB.out⟩
  have hm2 : (m == 2) = false := beq_eq_false_iff_ne.2 h3
  obtain ⟨r, hr, hX⟩ : ∃ r : Bool, decide (opP ⟨m, a, p, d⟩) = r ∧ ((p ≠ ⟨#[]⟩ ∧ r = false) ∨ (p = ⟨#[]⟩ ∧ m = 1 ∧ r = true) ∨ (p = ⟨#[]⟩ ∧ m ≠ 1 ∧ d = ⟨#[]⟩ ∧ r = true) ∨ (p = ⟨#[]⟩ ∧ m ≠ 1 ∧ d ≠ ⟨#[]⟩ ∧ r = false)) := by
    refine ⟨_, rfl, ?_⟩
    by_cases hp : p = ⟨#[]⟩
    · by_cases hm : m = 1
      · exact Or.inr (Or.inl ⟨hp, hm, decide_eq_true ⟨h1, h2, by rw [if_neg h3]; exact ⟨hp, Or.inl hm⟩⟩⟩)
      · by_cases hd : d = ⟨#[]⟩
        · exact Or.inr (Or.inr (Or.inl ⟨hp, hm, hd, decide_eq_true ⟨h1, h2, by rw [if_neg h3]; exact ⟨hp, Or.inr hd⟩⟩⟩))
        · exact Or.inr (Or.inr (Or.inr ⟨hp, hm, hd, decide_eq_false fun k => by
            have := k.2.2
            rw [if_neg h3] at this
            rcases this.2 with c | c
            · exact hm c
            · exact hd c⟩))
    · exact Or.inl ⟨hp, decide_eq_false fun k => hp (by have := k.2.2; rw [if_neg h3] at this; exact this.1)⟩
  rw [hr]
  clear hr h1 h2 h3
  rcases hX with ⟨hp, rfl⟩ | ⟨rfl, hm, rfl⟩ | ⟨rfl, hm, rfl, rfl⟩ | ⟨rfl, hm, hd, rfl⟩
  · have e1 := emF_no hp
    have e2 := emF_eq hp
    clear hp
    go_enter Try.func44, Try.ntmps44
    go_wp2_with fail
    refine (HIN.out _).mono ?_
    rintro e w1 ⟨rfl, hw⟩
    subst w1
    go_wp2_with fail
    refine (HNA.out _).mono ?_
    rintro e w1 ⟨rfl, hw⟩
    subst w1
    go_wp2_with fail
    go_ret
    exact ⟨rfl, HB.out⟩
  · have e1 : (m == 1) = true := beq_iff_eq.2 hm
    clear hm
    go_enter Try.func44, Try.ntmps44
    go_wp2_with fail
    refine (HIN.out _).mono ?_
    rintro e w1 ⟨rfl, hw⟩
    subst w1
    go_wp2_with fail
    refine (HNA.out _).mono ?_
    rintro e w1 ⟨rfl, hw⟩
    subst w1
    go_wp2_with fail
    go_ret
    exact ⟨rfl, HB.out⟩
  · have e1 : (m == 1) = false := beq_eq_false_iff_ne.2 hm
    clear hm
    go_enter Try.func44, Try.ntmps44
    go_wp2_with fail
    refine (HIN.out _).mono ?_
    rintro e w1 ⟨rfl, hw⟩
    subst w1
    go_wp2_with fail
    refine (HNA.out _).mono ?_
    rintro e w1 ⟨rfl, hw⟩
    subst w1
    go_wp2_with fail
    go_ret
    exact ⟨rfl, HB.out⟩
  · have e1 : (m == 1) = false := beq_eq_false_iff_ne.2 hm
    have e2 := emF_no hd
    have e3 := emF_eq hd
    clear hm hd
    go_enter Try.func44, Try.ntmps44
    go_wp2_with fail
    refine (HIN.out _).mono ?_
    rintro e w1 ⟨rfl, hw⟩
    subst w1
    go_wp2_with fail
    refine (HNA.out _).mono ?_
    rintro e w1 ⟨rfl, hw⟩
    subst w1
    go_wp2_with fail
    go_ret
    exact ⟨rfl, HB.out⟩
end Go.Proofs.Ytanlggglbpibfaa
