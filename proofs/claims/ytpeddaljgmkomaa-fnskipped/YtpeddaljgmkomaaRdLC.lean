/-
  ReadDelta: the code's.
-/
import Derived.Test.YtpeddaljgmkomaaPk07
namespace Go.Proofs.Ytpeddaljgmkomaa
open Go.RowKit
set_option linter.unusedVariables false
set_option linter.unusedSimpArgs false
def RdPost (w : World) (R : Option (List PcI)) (e : Ending) (w' : World) : Prop := (∃ v, e = .returned (.tuple #[v, .bool R.isSome]) ∧ w'.ownsRow w.heap.size 89 3 v (R.getD []).length (pcC (R.getD []))) ∧ Below w.heap.size w w'
theorem RdPost.no {w w' : World} {R : Option (List PcI)} (h : R = none) (hb : Below w.heap.size w w') : RdPost w R (.returned (.tuple #[.slice none 0 0, .bool false])) w' := by
  subst h; exact ⟨⟨_, rfl, World.ownsRow_nil _ _ _ _⟩, hb⟩
theorem RdPost.yes {w w' : World} {R : Option (List PcI)} {L : List PcI} {v : Value} (h : R = some L) (ho : w'.ownsRow w.heap.size 89 3 v L.length (pcC L)) (hb : Below w.heap.size w w') : RdPost w R (.returned (.tuple #[v, .bool true])) w' := by
  subst h; exact ⟨⟨_, rfl, ho⟩, hb⟩
end Go.Proofs.Ytpeddaljgmkomaa
