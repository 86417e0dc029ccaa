/-
  DERIVED. GIVEN WITH THE SEED: THE CARDS: each row of YtfegoldjejlcaaaDoorRows.lean that lists a variable, with what it lists TIED to the program's text (the seventh form; the later family's looks); each row that meets fmt, with fmt's text TOLD by the authors' own Lean function (tested against real Go, not proved from fmt's source: count such statements apart). THE CARD IS WHAT COUNTS. Prove the row's statement (the work); the ties are given (YtfegoldjejlcaaaDoorTie.lean); close each card by the builder's one call (the guide's Derived/Test/ToyasCard.lean, 'card_holds'). Laid BY PROGRAM, IN A SANDBOX (cutbox-door.mjs). By AI agents, Wed Nov 11 2026. No macro, syntax, notation, axiom, sorry.
-/
import Derived.Test.YtfegoldjejlcaaaDoorRows
import GoSem.ClaimSeven
namespace Go.Proofs.YtfegoldjejlcaaaDoor
namespace Rows

/-- THE TIED CARD OF 'laws.FnUnder'. -/
def fnUnderCard : Claim7 := { stood := { row := fnUnderRow, standIns := [], harness := (true, "035472ad97aa82c5e00724a87885a4d71eec7f57e226dfe30d186398433c0bb3"), looks := false }, kinds := [], alts := [], laidByText := true, laidKinds := [.data, .pinned], laidTests := true, laidLooks := .later }
def FnUnderCardSaid : Prop := Claim7.holds Tryd.pinned (.plain (OpenSpec.ofChange fnUnderSpec)) fnUnderCard

/-- THE TIED CARD OF 'laws.FnChanged'. -/
def fnChangedCard : Claim7 := { stood := { row := fnChangedRow, standIns := [], harness := (true, "035472ad97aa82c5e00724a87885a4d71eec7f57e226dfe30d186398433c0bb3"), looks := false }, kinds := [], alts := [], laidByText := true, laidKinds := [.data, .pinned], laidTests := true, laidLooks := .later }
def FnChangedCardSaid : Prop := Claim7.holds Tryd.pinned (.plain (OpenSpec.ofChange fnChangedSpec)) fnChangedCard

/-- THE TIED CARD OF 'laws.FnGrouped'. -/
def fnGroupedCard : Claim7 := { stood := { row := fnGroupedRow, standIns := [], harness := (true, "035472ad97aa82c5e00724a87885a4d71eec7f57e226dfe30d186398433c0bb3"), looks := false }, kinds := [], alts := [], laidByText := true, laidKinds := [.data, .pinned], laidTests := true, laidLooks := .later }
def FnGroupedCardSaid : Prop := Claim7.holds Tryd.pinned (.plain (OpenSpec.ofChange fnGroupedSpec)) fnGroupedCard

/-- THE TIED CARD OF 'laws.FnExactUnder'. -/
def fnExactUnderCard : Claim7 := { stood := { row := fnExactUnderRow, standIns := [], harness := (true, "035472ad97aa82c5e00724a87885a4d71eec7f57e226dfe30d186398433c0bb3"), looks := false }, kinds := [], alts := [], laidByText := true, laidKinds := [.data, .pinned], laidTests := true, laidLooks := .later }
def FnExactUnderCardSaid : Prop := Claim7.holds Tryd.pinned (.plain (OpenSpec.ofChange fnExactUnderSpec)) fnExactUnderCard

/-- THE TIED CARD OF 'laws.FnExactChanged'. -/
def fnExactChangedCard : Claim7 := { stood := { row := fnExactChangedRow, standIns := [], harness := (true, "035472ad97aa82c5e00724a87885a4d71eec7f57e226dfe30d186398433c0bb3"), looks := false }, kinds := [], alts := [], laidByText := true, laidKinds := [.data, .pinned], laidTests := true, laidLooks := .later }
def FnExactChangedCardSaid : Prop := Claim7.holds Tryd.pinned (.plain (OpenSpec.ofChange fnExactChangedSpec)) fnExactChangedCard

/-- THE TIED CARD OF 'laws.FnExactGrouped'. -/
def fnExactGroupedCard : Claim7 := { stood := { row := fnExactGroupedRow, standIns := [], harness := (true, "035472ad97aa82c5e00724a87885a4d71eec7f57e226dfe30d186398433c0bb3"), looks := false }, kinds := [], alts := [], laidByText := true, laidKinds := [.data, .pinned], laidTests := true, laidLooks := .later }
def FnExactGroupedCardSaid : Prop := Claim7.holds Tryd.pinned (.plain (OpenSpec.ofChange fnExactGroupedSpec)) fnExactGroupedCard

/-- THE SECOND FORM's CARD OF 'laws.FnUnder'. -/
def fnUnderUptoCard : Claim7 := { stood := { row := fnUnderUptoRow, standIns := [], harness := (true, "035472ad97aa82c5e00724a87885a4d71eec7f57e226dfe30d186398433c0bb3"), looks := false }, kinds := [], alts := [], laidByText := true, laidKinds := [.data, .pinned], laidTests := true, laidLooks := .later }
def FnUnderUptoCardSaid : Prop := Claim7.holds Tryd.pinned (.plain (OpenSpec.upto fnUnderSpec)) fnUnderUptoCard

/-- THE SECOND FORM's CARD OF 'laws.FnChanged'. -/
def fnChangedUptoCard : Claim7 := { stood := { row := fnChangedUptoRow, standIns := [], harness := (true, "035472ad97aa82c5e00724a87885a4d71eec7f57e226dfe30d186398433c0bb3"), looks := false }, kinds := [], alts := [], laidByText := true, laidKinds := [.data, .pinned], laidTests := true, laidLooks := .later }
def FnChangedUptoCardSaid : Prop := Claim7.holds Tryd.pinned (.plain (OpenSpec.upto fnChangedSpec)) fnChangedUptoCard

/-- THE SECOND FORM's CARD OF 'laws.FnGrouped'. -/
def fnGroupedUptoCard : Claim7 := { stood := { row := fnGroupedUptoRow, standIns := [], harness := (true, "035472ad97aa82c5e00724a87885a4d71eec7f57e226dfe30d186398433c0bb3"), looks := false }, kinds := [], alts := [], laidByText := true, laidKinds := [.data, .pinned], laidTests := true, laidLooks := .later }
def FnGroupedUptoCardSaid : Prop := Claim7.holds Tryd.pinned (.plain (OpenSpec.upto fnGroupedSpec)) fnGroupedUptoCard

/-- THE SECOND FORM's CARD OF 'laws.FnExactUnder'. -/
def fnExactUnderUptoCard : Claim7 := { stood := { row := fnExactUnderUptoRow, standIns := [], harness := (true, "035472ad97aa82c5e00724a87885a4d71eec7f57e226dfe30d186398433c0bb3"), looks := false }, kinds := [], alts := [], laidByText := true, laidKinds := [.data, .pinned], laidTests := true, laidLooks := .later }
def FnExactUnderUptoCardSaid : Prop := Claim7.holds Tryd.pinned (.plain (OpenSpec.upto fnExactUnderSpec)) fnExactUnderUptoCard

/-- THE SECOND FORM's CARD OF 'laws.FnExactChanged'. -/
def fnExactChangedUptoCard : Claim7 := { stood := { row := fnExactChangedUptoRow, standIns := [], harness := (true, "035472ad97aa82c5e00724a87885a4d71eec7f57e226dfe30d186398433c0bb3"), looks := false }, kinds := [], alts := [], laidByText := true, laidKinds := [.data, .pinned], laidTests := true, laidLooks := .later }
def FnExactChangedUptoCardSaid : Prop := Claim7.holds Tryd.pinned (.plain (OpenSpec.upto fnExactChangedSpec)) fnExactChangedUptoCard

/-- THE SECOND FORM's CARD OF 'laws.FnExactGrouped'. -/
def fnExactGroupedUptoCard : Claim7 := { stood := { row := fnExactGroupedUptoRow, standIns := [], harness := (true, "035472ad97aa82c5e00724a87885a4d71eec7f57e226dfe30d186398433c0bb3"), looks := false }, kinds := [], alts := [], laidByText := true, laidKinds := [.data, .pinned], laidTests := true, laidLooks := .later }
def FnExactGroupedUptoCardSaid : Prop := Claim7.holds Tryd.pinned (.plain (OpenSpec.upto fnExactGroupedSpec)) fnExactGroupedUptoCard
end Rows
end Go.Proofs.YtfegoldjejlcaaaDoor
