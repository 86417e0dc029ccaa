/-
  What a number becomes behind a bit: the code's and the specification's.
-/
import Derived.Test.YtibciflmalfbjaaIn
namespace Go.Proofs.Ytibciflmalfbjaa
open Go.RowKit
def movI (p b : Int) : Int := if 1 ≤ p ∧ p ≤ 2047 ∧ (b = 0 ∨ b = 1) then (if b = 0 then p + (2048 - p) / 32 else p - p / 32) else -1
theorem mov_out {p b : Int} (h : ¬ (1 ≤ p ∧ p ≤ 2047)) : movI p b = -1 := by unfold movI; rw [if_neg (fun c => h ⟨c.1, c.2.1⟩)]
theorem mov_bit {p b : Int} (h0 : b ≠ 0) (h1 : b ≠ 1) : movI p b = -1 := by unfold movI; rw [if_neg (fun c => by omega)]
theorem mov_zero {p : Int} (h1 : 1 ≤ p) (h2 : p ≤ 2047) : movI p 0 = p + (2048 - p) / 32 := by unfold movI; rw [if_pos ⟨h1, h2, Or.inl rfl⟩, if_pos rfl]
theorem mov_one {p : Int} (h1 : 1 ≤ p) (h2 : p ≤ 2047) : movI p 1 = p - p / 32 := by unfold movI; rw [if_pos ⟨h1, h2, Or.inr rfl⟩, if_neg (by decide)]
set_option maxRecDepth 100000 in
theorem moved_any (p b : Int) (w : World) :
    Calls Try.prog 85 #[.int .i64 p, .int .i64 b] w fun e w' => e = .returned (.int .i64 (movI p b)) ∧ w' = w := by
  by_cases h1 : p < 1
  · rw [mov_out (by omega)]
    go_enter Try.func85, Try.ntmps85
    go_wp2_with fail
    go_ret
    exact ⟨rfl, rfl⟩
  by_cases h2 : 2048 ≤ p
  · rw [mov_out (by omega)]
    go_enter Try.func85, Try.ntmps85
    go_wp2_with fail
    go_ret
    exact ⟨rfl, rfl⟩
  by_cases h3 : b = 0
  · subst h3
    rw [mov_zero (by omega) (by omega)]
    go_enter Try.func85, Try.ntmps85
    go_wp2_with fail
    go_ret
    exact ⟨rfl, rfl⟩
  by_cases h4 : b = 1
  · subst h4
    rw [mov_one (by omega) (by omega)]
    go_enter Try.func85, Try.ntmps85
    go_wp2_with fail
    go_ret
    exact ⟨rfl, rfl⟩
  · rw [mov_bit h3 h4]
    go_enter Try.func85, Try.ntmps85
    go_wp2_with fail
    go_ret
    exact ⟨rfl, rfl⟩
set_option maxRecDepth 100000 in
theorem smoved_in (p b : Int) (w : World) (h1 : 1 ≤ p) (h2 : p ≤ 2047) (hb : b = 0 ∨ b = 1) :
    Calls Try.prog 46 #[.int .i64 p, .int .i64 b] w fun e w' => e = .returned (.int .i64 (movI p b)) ∧ w' = w := by
  rcases hb with rfl | rfl
  · rw [mov_zero (by omega) (by omega)]
    go_enter Try.func46, Try.ntmps46
    go_wp2_with fail
    go_ret
    exact ⟨rfl, rfl⟩
  · rw [mov_one (by omega) (by omega)]
    go_enter Try.func46, Try.ntmps46
    go_wp2_with fail
    go_ret
    exact ⟨rfl, rfl⟩
end Go.Proofs.Ytibciflmalfbjaa
