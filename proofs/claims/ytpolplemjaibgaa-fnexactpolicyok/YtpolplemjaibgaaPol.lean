/-
  Whether a policy is right: the code's and the specification's.
-/
import Derived.Test.YtpolplemjaibgaaIn
import Derived.Below
namespace Go.Proofs.Ytpolplemjaibgaa
open Go.RowKit
set_option linter.unusedVariables false
def polP (l d k : Int) : Prop := (0 ≤ l ∧ l ≤ 50) ∧ (0 ≤ d ∧ d ≤ 50) ∧ (0 ≤ k ∧ k ≤ 50)
instance (l d k : Int) : Decidable (polP l d k) := by unfold polP; exact inferInstance
def polV (l d k : Int) : Value := .agg #[.int .i64 l, .int .i64 d, .int .i64 k]
def polF (l d k : Int) : Nat → Int | 0 => l | 1 => d | _ => k
def polIn (x : Int) : Prop := 0 ≤ x ∧ x ≤ 50
theorem polP_of {l d k : Int} (h : ∀ j, j < 3 → polIn (polF l d k j)) : polP l d k := ⟨h 0 (by omega), h 1 (by omega), h 2 (by omega)⟩
theorem polP_no {l d k : Int} {i : Nat} (h : ¬ polIn (polF l d k i)) : ¬ polP l d k := fun c => h (by
  match i with
  | 0 => exact c.1
  | 1 => exact c.2.1
  | _ + 2 => exact c.2.2)
def natPol : Value → Nat | .int _ i => i.toNat | _ => 0
set_option maxRecDepth 100000 in
set_option maxHeartbeats 2000000 in
theorem pol_any (l d k : Int) (w : World) :
    Calls Try.prog 11 #[polV l d k] w fun e w' => e = .returned (.bool (decide (polP l d k))) ∧ Below w.heap.size w w' := by
  unfold polV
  have HY : Hid ((∀ j, j < 3 → polIn (polF l d k j)) → decide (polP l d k) = true) := fun h => decide_eq_true (polP_of h)
  have HN : Hid (∀ i, ¬ polIn (polF l d k i) → decide (polP l d k) = false) := fun i h => decide_eq_false (polP_no h)
  have HC : Hid (∀ i, i < 3 → ((w.alloc (.cells #[.int .i64 l, .int .i64 d, .int .i64 k] 25)).alloc (.cells #[.int .i64 l, .int .i64 d, .int .i64 k] 2)).cell? ⟨w.heap.size + 1, i, none⟩ = some (.int .i64 (polF l d k i))) := fun i hi => by
    have h := heap_alloc_new (w.alloc (.cells #[.int .i64 l, .int .i64 d, .int .i64 k] 25)) (.cells #[.int .i64 l, .int .i64 d, .int .i64 k] 2)
    have hs : (w.alloc (.cells #[.int .i64 l, .int .i64 d, .int .i64 k] 25)).heap.size = w.heap.size + 1 := by simp
    rw [hs] at h
    refine (cell_of_row _ _ _ _ _ _ h).trans ?_
    match i, hi with
    | 0, _ => rfl
    | 1, _ => rfl
    | 2, _ => rfl
  have HB : Hid (Below w.heap.size w ((w.alloc (.cells #[.int .i64 l, .int .i64 d, .int .i64 k] 25)).alloc (.cells #[.int .i64 l, .int .i64 d, .int .i64 k] 2))) := ((Below.refl _ _).alloc (Nat.le_refl _) _).alloc (by simp) _
  generalize polF l d k = f at HY HN HC
  generalize decide (polP l d k) = q at HY HN ⊢
  go_enter Try.func11, Try.ntmps11
  go_wp2_with fail
  generalize (w.alloc (.cells #[.int .i64 l, .int .i64 d, .int .i64 k] 25)).alloc (.cells #[.int .i64 l, .int .i64 d, .int .i64 k] 2) = W at HC HB ⊢
  go_loop [13] (fun x => ∃ i : Nat, i ≤ 3 ∧ x = .int .i64 (i : Int) ∧ Hid (∀ j, j < i → polIn (f j))) (fun x => 3 - natPol x)
  case atStart => exact ⟨0, by omega, rfl, fun j hj => absurd hj (by omega)⟩
  case round =>
    obtain ⟨i, hi, rfl, HG⟩ := hrel
    by_cases hlt : i < 3
    · have hltI : (i : Int) < 3 := by omega
      have hc := HC.out i hlt
      have HX : Hid (polIn (f i) → ∀ j, j < i + 1 → polIn (f j)) := fun h j hj => by
        by_cases e : j < i
        · exact HG.out j e
        · obtain rfl : j = i := by omega
          exact h
      have HM : Hid (¬ polIn (f i) → q = false) := HN.out i
      generalize f i = x at hc HX HM
      by_cases h1 : 0 ≤ x
      · by_cases h2 : x ≤ 50
        · have HX2 := HX.out ⟨h1, h2⟩
          have h1I : ¬ x < 0 := by omega
          have h2I : ¬ 50 < x := by omega
          have HH : Hid (∀ j, j < i + 1 → polIn (f j)) := HX2
          clear HX HM h1 h2 HX2 HC HG
          go_wp2_with fail
          go_round
          case rel => exact ⟨i + 1, by omega, by go_num, HH⟩
          case measure => simp [natPol]; omega
        · obtain rfl := HM.out (fun c => h2 c.2)
          have h1I : ¬ x < 0 := by omega
          have h2I : 50 < x := by omega
          clear HX HM h1 h2
          go_wp2_with fail
          go_ret
          exact ⟨rfl, HB.out⟩
      · obtain rfl := HM.out (fun c => h1 c.1)
        have h1I : x < 0 := by omega
        clear HX HM h1
        go_wp2_with fail
        go_ret
        exact ⟨rfl, HB.out⟩
    · obtain rfl : i = 3 := by omega
      obtain rfl := HY.out HG.out
      go_wp2_with fail
      go_ret
      exact ⟨rfl, HB.out⟩
set_option maxRecDepth 100000 in
set_option maxHeartbeats 2000000 in
theorem spol_any (l d k : Int) (w : World) :
    Calls Try.prog 9 #[polV l d k] w fun e w' => e = .returned (.bool (decide (polP l d k))) ∧ Below w.heap.size w w' := by
  unfold polV
  by_cases h1 : polIn l
  · have HA : Hid (∀ w, Calls Try.prog 30 #[.int .i64 l, .int .i64 0, .int .i64 50] w fun e w' => e = .returned (.bool true) ∧ w' = w) := fun w => in_yes l 0 50 w h1.1 h1.2
    by_cases h2 : polIn d
    · have HB : Hid (∀ w, Calls Try.prog 30 #[.int .i64 d, .int .i64 0, .int .i64 50] w fun e w' => e = .returned (.bool true) ∧ w' = w) := fun w => in_yes d 0 50 w h2.1 h2.2
      obtain ⟨q, hq, HC⟩ : ∃ q, decide (polP l d k) = q ∧ Hid (∀ w, Calls Try.prog 30 #[.int .i64 k, .int .i64 0, .int .i64 50] w fun e w' => e = .returned (.bool q) ∧ w' = w) := by
        by_cases h3 : polIn k
        · exact ⟨true, decide_eq_true ⟨h1, h2, h3⟩, fun w => in_yes k 0 50 w h3.1 h3.2⟩
        · exact ⟨false, decide_eq_false (fun c => h3 c.2.2), fun w => in_no k 0 50 w h3⟩
      rw [hq]
      clear h1 h2 hq
      go_enter Try.func9, Try.ntmps9
      go_wp2_with fail
      refine (HA.out _).mono ?_
      rintro e w' ⟨rfl, hw⟩
      subst w'
      go_wp2_with fail
      refine (HB.out _).mono ?_
      rintro e w' ⟨rfl, hw⟩
      subst w'
      go_wp2_with fail
      refine (HC.out _).mono ?_
      rintro e w' ⟨rfl, hw⟩
      subst w'
      go_wp2_with fail
      go_ret
      exact ⟨rfl, (Below.refl _ _).alloc (Nat.le_refl _) _⟩
    · have HB : Hid (∀ w, Calls Try.prog 30 #[.int .i64 d, .int .i64 0, .int .i64 50] w fun e w' => e = .returned (.bool false) ∧ w' = w) := fun w => in_no d 0 50 w h2
      rw [show decide (polP l d k) = false from decide_eq_false (fun c => h2 c.2.1)]
      clear h1 h2
      go_enter Try.func9, Try.ntmps9
      go_wp2_with fail
      refine (HA.out _).mono ?_
      rintro e w' ⟨rfl, hw⟩
      subst w'
      go_wp2_with fail
      refine (HB.out _).mono ?_
      rintro e w' ⟨rfl, hw⟩
      subst w'
      go_wp2_with fail
      go_ret
      exact ⟨rfl, (Below.refl _ _).alloc (Nat.le_refl _) _⟩
  · have HA : Hid (∀ w, Calls Try.prog 30 #[.int .i64 l, .int .i64 0, .int .i64 50] w fun e w' => e = .returned (.bool false) ∧ w' = w) := fun w => in_no l 0 50 w h1
    rw [show decide (polP l d k) = false from decide_eq_false (fun c => h1 c.1)]
    clear h1
    go_enter Try.func9, Try.ntmps9
    go_wp2_with fail
    refine (HA.out _).mono ?_
    rintro e w' ⟨rfl, hw⟩
    subst w'
    go_wp2_with fail
    go_ret
    exact ⟨rfl, (Below.refl _ _).alloc (Nat.le_refl _) _⟩
end Go.Proofs.Ytpolplemjaibgaa
