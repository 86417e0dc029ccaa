/-
  The reader of drawn bytes: what 'hurt' answers: some text, a few bytes longer at most.
-/
import Derived.Test.YtfegoldjejlcaaaDoorData
import Derived.Test.YtfegoldjejlcaaaDoorHeld
namespace Go.Proofs.YtfegoldjejlcaaaDoor
open Go.RowKit
set_option linter.unusedVariables false
set_option linter.unusedSimpArgs false
theorem Rd3.drewL {w0 : World} {a : Option Addr} {len cap g : Nat} {W w1 : World} (h : Rd3 w0 a len cap g W.drew w1) : Rd3 w0 a len cap g W w1 :=
  ⟨h.rd, ⟨h.grown.os, h.grown.tape, h.grown.output, h.grown.size, h.grown.block⟩⟩
end Go.Proofs.YtfegoldjejlcaaaDoor
