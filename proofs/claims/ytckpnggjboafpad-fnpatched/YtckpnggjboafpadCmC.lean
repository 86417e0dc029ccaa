/-
  Parts of pieces: the code's.
-/
import Derived.Test.YtckpnggjboafpadCmM
namespace Go.Proofs.Ytckpnggjboafpad
open Go.RowKit
set_option linter.unusedVariables false
set_option linter.unusedSimpArgs false
/-- what the parts are asked of -/
structure PrtIn (F : Nat → PcI) (n : Nat) (a b : Int) : Prop where
  len : n ≤ 500
  ok : ∀ i, i < n → pcP (F i) 4000
  d : ∀ i, i < n → (F i).d.size ≤ 1048576
  sum : pcSum F n ≤ 4000
  lo : 0 ≤ a
  hi : a ≤ b ∧ b ≤ 4000
end Go.Proofs.Ytckpnggjboafpad
