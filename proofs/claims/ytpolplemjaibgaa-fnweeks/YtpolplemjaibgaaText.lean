/-
  The reader of drawn bytes: what 'text' answers: some short text; and how it is opened.
-/
import Derived.Test.YtpolplemjaibgaaBytes
namespace Go.Proofs.Ytpolplemjaibgaa
open Go.RowKit

set_option maxRecDepth 100000 in
theorem open_any {w0 : World} {a : Option Addr} {len cap : Nat} {W : World} (hb : Below w0.heap.size w0 W) :
    Calls Try.prog 37 #[.slice a len cap] W fun e w' => e = .returned (.pointer (some ⟨W.heap.size, 0, none⟩)) ∧ RD w0 a len cap W.heap.size w' ∧ W.grownBy w' none := by
  go_enter Try.func37, Try.ntmps37
  go_wp2_with fail
  go_ret
  exact ⟨rfl, ⟨hb.alloc hb.size _, hb.size, 0, by omega, MapKept.heap_alloc W _ |>.1⟩, World.grownBy_alloc _ _ _⟩
end Go.Proofs.Ytpolplemjaibgaa
