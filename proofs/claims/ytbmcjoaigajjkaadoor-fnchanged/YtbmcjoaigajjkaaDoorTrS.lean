/-
  Whether a tree is right: the specification's.
-/
import Derived.Test.YtbmcjoaigajjkaaDoorTrO
import Derived.Test.YtbmcjoaigajjkaaDoorIn
import Derived.Laws.Cover1
import Derived.BigQuiet
namespace Go.Proofs.YtbmcjoaigajjkaaDoor
open Go.RowKit
set_option linter.unusedVariables false
set_option linter.unusedSimpArgs false
/-- the first node of a path, or -1 -/
def AtP (F : Nat → NdI) (n : Nat) (s : ByteArray) (x : Int) : Prop := (x = -1 ∧ ∀ j, j < n → (F j).p ≠ s) ∨ ∃ q : Nat, x = (q : Int) ∧ q < n ∧ (F q).p = s ∧ ∀ j, j < q → (F j).p ≠ s
set_option maxRecDepth 100000 in
set_option maxHeartbeats 2000000 in
theorem sat_any (a : Option Addr) (c n : Nat) (F : Nat → NdI) (s : ByteArray) (w : World) (hn : n ≤ 1048576) (hr : 0 < n → ∃ g, a = some ⟨g, 0, none⟩ ∧ NdRow w g n F) :
    Calls Tryd.prog 30 #[.slice a n c, .string s] w fun e w' => (∃ x : Int, e = .returned (.int .i64 x) ∧ AtP F n s x) ∧ w' = w := by
  have hnI : (n : Int) ≤ 1048576 := by omega
  have HR : Hid (0 < n → ∃ g, a = some ⟨g, 0, none⟩ ∧ NdRow w g n F) := hr
  clear hr
  go_enter Tryd.func30, Tryd.ntmps30
  go_wp2_with fail
  go_loopw [5] (fun x wr => ∃ i : Nat, i ≤ n ∧ x = .int .i64 (i : Int) ∧ Hid (∀ j, j < i → (F j).p ≠ s) ∧ wr = w) (fun x _ => n - (trI x).toNat)
  case atStart => exact ⟨0, by omega, rfl, fun j hj => absurd hj (by omega), rfl⟩
  case round =>
    obtain ⟨i, hi, rfl, HN, hw⟩ := hrel
    subst hw
    by_cases hlt : i < n
    · have hltI : (i : Int) < (n : Int) := by omega
      obtain ⟨g, rfl, hrow⟩ := HR.out (by omega)
      obtain ⟨q, hq⟩ : ∃ q, q = 4 * i := ⟨_, rfl⟩
      have x0 := hrow.c0 i hlt
      rw [← hq] at x0
      have hiq : i * 4 = q := by omega
      have HS : Hid ((F i).p ≠ s → ∀ j, j < i + 1 → (F j).p ≠ s) := fun hne j hj => by
        by_cases e : j < i
        · exact HN.out j e
        · have e2 : j = i := by omega
          subst e2
          exact hne
      have HQ : Hid ((F i).p = s → AtP F n s (i : Int)) := fun h => Or.inr ⟨i, rfl, hlt, h, HN.out⟩
      clear hrow hq HN
      generalize (F i).p = y at x0 HS HQ
      by_cases he : y = s
      · have HQ2 := hidT (HQ.out he)
        subst he
        clear HS HQ
        go_wp2_with fail
        go_ret
        exact ⟨⟨_, rfl, HQ2.out⟩, rfl⟩
      · have HS2 := hidT (HS.out he)
        have he2 : (y.toList == s.toList) = false := beq_eq_false_iff_ne.2 fun c => he (ba_list c)
        clear HS HQ he
        go_wp2_with fail
        go_roundw
        case rel => exact ⟨i + 1, by omega, by go_num, HS2, trivial⟩
        case measure => simp [trI]; omega
    · obtain rfl : i = n := by omega
      go_wp2_with fail
      go_ret
      exact ⟨⟨_, rfl, Or.inl ⟨rfl, HN.out⟩⟩, rfl⟩
end Go.Proofs.YtbmcjoaigajjkaaDoor
