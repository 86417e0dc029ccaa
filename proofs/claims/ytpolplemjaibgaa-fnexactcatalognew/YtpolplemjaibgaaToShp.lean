/-
  What the law makes of a shape that came in.
-/
import Derived.Test.YtpolplemjaibgaaShp
namespace Go.Proofs.Ytpolplemjaibgaa
open Go.RowKit
set_option linter.unusedVariables false
set_option maxRecDepth 100000 in
set_option maxHeartbeats 1000000 in
theorem toShp_any (l b m : Int) (w : World) :
    Calls Try.prog 25 #[shpV l b m] w fun e w' => e = .returned (shpV l b m) ∧ Below w.heap.size w w' := by
  unfold shpV
  go_enter Try.func25, Try.ntmps25
  go_wp2_with fail
  refine bodyPost_ret (results_cell_row rfl _ _ (w.heap.size + 1) 44 #[.int .i64 l, .int .i64 b, .int .i64 m] (0, 0) _ rfl ?_ Try.underlying44 rfl (by kernel_rfl)) rfl ⟨rfl, (((Below.refl _ _).alloc (Nat.le_refl _) _).alloc (by simp) _).alloc (by simp; omega) _⟩
  rw [Below.heap_alloc _ _ _ (by simp)]
  have h := heap_alloc_new (w.alloc (.cells #[.int .i64 l, .int .i64 b, .int .i64 m] 43)) (.cells #[.int .i64 l, .int .i64 b, .int .i64 m] 44)
  simpa using h
end Go.Proofs.Ytpolplemjaibgaa
