/-
  The choices of a text that is too long: the specification's.
-/
import Derived.Test.YtmckchklebohmanTkS
namespace Go.Proofs.Ytmckchklebohman
open Go.RowKit
set_option linter.unusedVariables false
set_option linter.unusedSimpArgs false
set_option maxRecDepth 100000 in
theorem schoices_no (s : ByteArray) (w : World) (hs : ¬ s.size ≤ 4000) :
    Calls Try.prog 18 #[.string s] w fun e w' => e = .returned (.tuple #[.slice none 0 0, .bool false]) ∧ w' = w := by
  have H : Hid (∀ w, _) := fun w => stokens_no s w hs
  clear hs
  go_enter Try.func18, Try.ntmps18
  go_wp2_with fail
  refine (H.out _).mono ?_
  rintro e w1 ⟨rfl, rfl⟩
  go_wp2_with fail
  go_ret2
  exact ⟨rfl, rfl⟩
end Go.Proofs.Ytmckchklebohman
