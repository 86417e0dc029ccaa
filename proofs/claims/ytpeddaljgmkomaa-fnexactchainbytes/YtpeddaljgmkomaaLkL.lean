/-
  What the law's measure lets in, of lists of links.
-/
import Derived.Test.YtpeddaljgmkomaaVeD
import Derived.Test.YtpeddaljgmkomaaLkR
namespace Go.Proofs.Ytpeddaljgmkomaa
open Go.RowKit
set_option linter.unusedVariables false
theorem lkLe_of {L : List LkI} (hz : ∀ x ∈ L, LkZ x) (hn : lkN L ≤ 1048576) : LkLe L ∧ L.length ≤ 1048576 ∧ ∀ x ∈ L, x.p.length ≤ 1048576 := by
  have h1 : ∀ x ∈ L, lkW x ≤ 1048576 := fun x hx => by
    have := sum_one lkW hx
    unfold lkN at hn
    omega
  have h0 : L.length ≤ 1048576 := by unfold lkN at hn; omega
  have h2 : ∀ x ∈ L, x.p.length ≤ 1048576 := fun x hx => by
    have := h1 x hx
    unfold lkW pcN at this
    omega
  refine ⟨⟨h0, fun x hx => ⟨?_, (hz x hx).b, h2 x hx, fun i hi => ?_⟩⟩, h0, h2⟩
  · have := h1 x hx
    unfold lkW at this
    omega
  · have := h1 x hx
    have h3 := pcTot_one (pcF x.p) hi
    unfold lkW pcN at this
    omega
end Go.Proofs.Ytpeddaljgmkomaa
