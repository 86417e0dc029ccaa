/-
  Members: whether they are right, and what the map of their names holds: plain mathematics.
-/
import Derived.Test.YtfegoldjejlcaaaDoorMbA
import Derived.Maps.Views
import Derived.StringKeys
namespace Go.Proofs.YtfegoldjejlcaaaDoor
open Go.RowKit
set_option linter.unusedVariables false
set_option linter.unusedSimpArgs false
def mbSum (F : Nat → MbI) : Nat → Nat
  | 0 => 0
  | i + 1 => mbSum F i + (F i).d.size
theorem mbSum_mono (F : Nat → MbI) {i n : Nat} (h : i ≤ n) : mbSum F i ≤ mbSum F n := by
  induction n with
  | zero =>
    obtain rfl : i = 0 := by omega
    exact Nat.le_refl _
  | succ n ih =>
    by_cases e : i = n + 1
    · subst e; exact Nat.le_refl _
    · exact Nat.le_trans (ih (by omega)) (Nat.le_add_right _ _)
theorem mbSum_tot (F : Nat → MbI) (n : Nat) : mbSum F n ≤ mbTot F n := by
  induction n with
  | zero => exact Nat.le_refl _
  | succ n ih =>
    show mbSum F n + (F n).d.size ≤ mbTot F n + ((F n).a.size + (F n).d.size)
    omega
/-- a name that may stand -/
def mbN (p : MbI) : Prop := 1 ≤ p.a.size ∧ p.a.size ≤ 120
/-- none twice -/
def mbU (F : Nat → MbI) (n : Nat) : Prop := ∀ i j, i < j → j < n → (F i).a ≠ (F j).a
def mbR (F : Nat → MbI) (n : Nat) : Prop := n ≤ 60 ∧ (∀ i, i < n → mbN (F i)) ∧ mbSum F n ≤ 4000 ∧ mbU F n
noncomputable def mbB (F : Nat → MbI) (n : Nat) : Bool := open Classical in decide (mbR F n)
open Classical in
theorem mbB_yes {F : Nat → MbI} {n : Nat} (h : mbR F n) : mbB F n = true := by unfold mbB; exact decide_eq_true h
open Classical in
theorem mbB_no {F : Nat → MbI} {n : Nat} (h : ¬ mbR F n) : mbB F n = false := by unfold mbB; exact decide_eq_false h
def mbK (p : MbI) : Lit := .string p.a.data.toList
theorem mbK_inj {p q : MbI} (h : mbK p = mbK q) : p.a = q.a := by
  unfold mbK at h
  injection h with h
  have h2 : p.a.data = q.a.data := Array.toList_inj.1 h
  cases hp : p.a; cases hq : q.a
  rw [hp, hq] at h2
  simp at h2
  rw [h2]
theorem mbK_key (p : MbI) : WideAt.IsKeyLit (mbK p) := trivial
/-- what the map holds behind n names -/
def mbD (F : Nat → MbI) : Nat → DataW Unit
  | 0 => .map []
  | i + 1 => (mbD F i).put (mbK (F i)) (.lit (.int .i64 (i : Int)))
theorem mbD_tidy (F : Nat → MbI) : ∀ n, Maps.Tidy (mbD F n)
  | 0 => Maps.tidy_empty
  | n + 1 => (mbD_tidy F n).put (mbK_key _) _
theorem mbD_no {F : Nat → MbI} {k : Lit} : ∀ n, (∀ i, i < n → mbK (F i) ≠ k) → Maps.has (mbD F n) k = false
  | 0, _ => rfl
  | n + 1, h => by
    show Maps.has ((mbD F n).put _ _) _ = _
    rw [Maps.has_put_other (fun e => h n (by omega) e.symm)]
    exact mbD_no n fun i hi => h i (by omega)
theorem mbD_yes {F : Nat → MbI} {k : Lit} : ∀ n, (∃ i, i < n ∧ mbK (F i) = k) → Maps.has (mbD F n) k = true
  | 0, h => by obtain ⟨i, hi, _⟩ := h; omega
  | n + 1, h => by
    show Maps.has ((mbD F n).put _ _) _ = _
    by_cases e : mbK (F n) = k
    · rw [← e]; exact Maps.has_put_same (mbD_tidy F n).isMap (mbK_key _) _
    · rw [Maps.has_put_other (fun x => e x.symm)]
      obtain ⟨i, hi, hk⟩ := h
      by_cases hin : i = n
      · subst hin; exact absurd hk e
      · exact mbD_yes n ⟨i, by omega, hk⟩
theorem mbD_size_le (F : Nat → MbI) : ∀ n, Maps.size (mbD F n) ≤ n
  | 0 => Nat.le_refl _
  | n + 1 => by
    have h := mbD_size_le F n
    show Maps.size ((mbD F n).put _ _) ≤ _
    rw [Maps.size_put (mbD_tidy F n)]
    split <;> omega
theorem mbD_size_yes {F : Nat → MbI} : ∀ n, mbU F n → Maps.size (mbD F n) = n
  | 0, _ => rfl
  | n + 1, h => by
    have h1 := mbD_size_yes n (fun i j hij hj => h i j hij (by omega))
    show Maps.size ((mbD F n).put _ _) = _
    rw [Maps.size_put (mbD_tidy F n), mbD_no n (fun i hi e => h i n hi (by omega) (mbK_inj e)), h1]
    rfl
theorem mbD_size_no {F : Nat → MbI} : ∀ n, ¬ mbU F n → Maps.size (mbD F n) < n
  | 0, h => absurd (fun i j _ hj => absurd hj (by omega)) h
  | n + 1, h => by
    have hle := mbD_size_le F n
    show Maps.size ((mbD F n).put _ _) < _
    rw [Maps.size_put (mbD_tidy F n)]
    by_cases hu : mbU F n
    · have hx : ∃ i, i < n ∧ mbK (F i) = mbK (F n) := by
        apply Classical.byContradiction
        intro hc
        apply h
        intro i j hij hj e
        by_cases hjn : j = n
        · subst hjn
          exact hc ⟨i, hij, by unfold mbK; rw [e]⟩
        · exact hu i j hij (by omega) e
      rw [mbD_yes n hx]
      simp only [if_true]
      omega
    · have h1 := mbD_size_no n hu
      split <;> omega
/-- which of the members has the name: the last one -/
theorem mbD_at {F : Nat → MbI} {k : Lit} {i : Nat} : ∀ n, i < n → mbK (F i) = k → (∀ j, i < j → j < n → mbK (F j) ≠ k) → ∀ z, (mbD F n).atKey k z = .lit (.int .i64 (i : Int))
  | 0, h, _, _, _ => by omega
  | n + 1, h, hk, hl, z => by
    show ((mbD F n).put _ _).atKey _ z = _
    by_cases e : i = n
    · subst e; rw [← hk]; exact Maps.atKey_put_same (mbD_tidy F i).isMap (mbK_key _) _ z
    · rw [Maps.atKey_put_other (fun x => hl n (by omega) (by omega) x.symm)]
      exact mbD_at n (by omega) hk (fun j h1 h2 => hl j h1 (by omega)) z
structure MbLe (F : Nat → MbI) (n : Nat) : Prop where
  len : n ≤ 1100000
  tot : n + mbTot F n ≤ 1100000
theorem MbLe.n {F : Nat → MbI} {n : Nat} (h : MbLe F n) {i : Nat} (hi : i < n) : (F i).a.size ≤ 1100000 ∧ (F i).d.size ≤ 1100000 := by
  have h1 := mbTot_one F hi
  have h2 := h.tot
  omega
end Go.Proofs.YtfegoldjejlcaaaDoor
