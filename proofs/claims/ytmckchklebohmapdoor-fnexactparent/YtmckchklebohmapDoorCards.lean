/-
  DERIVED. GIVEN WITH THE SEED: THE CARDS: each row of YtmckchklebohmapDoorRows.lean that lists a variable, with what it lists TIED to the program's text (the seventh form; the later family's looks); each row that meets fmt, with fmt's text TOLD by the authors' own Lean function (tested against real Go, not proved from fmt's source: count such statements apart). THE CARD IS WHAT COUNTS. Prove the row's statement (the work); the ties are given (YtmckchklebohmapDoorTie.lean); close each card by the builder's one call (the guide's Derived/Test/ToyasCard.lean, 'card_holds'). Laid BY PROGRAM, IN A SANDBOX (cutbox-door.mjs). By AI agents, Wed Nov 11 2026. No macro, syntax, notation, axiom, sorry.
-/
import Derived.Test.YtmckchklebohmapDoorRows
import GoSem.ClaimSeven
namespace Go.Proofs.YtmckchklebohmapDoor
namespace Rows

/-- THE TIED CARD OF 'laws.FnExactPathOk'. -/
def fnExactPathOkCard : Claim7 := { stood := { row := fnExactPathOkRow, standIns := [], harness := (true, "7d813b1814f1efe4dfd80a289d891a1007b2454c49fb46751b3246ed94c5036d"), looks := false }, kinds := [], alts := [], laidByText := true, laidKinds := [.data, .pinned], laidTests := true, laidLooks := .later }
def FnExactPathOkCardSaid : Prop := Claim7.holds Tryd.pinned (.plain (OpenSpec.ofChange fnExactPathOkSpec)) fnExactPathOkCard

/-- THE TIED CARD OF 'laws.FnExactParent'. -/
def fnExactParentCard : Claim7 := { stood := { row := fnExactParentRow, standIns := [], harness := (true, "7d813b1814f1efe4dfd80a289d891a1007b2454c49fb46751b3246ed94c5036d"), looks := false }, kinds := [], alts := [], laidByText := true, laidKinds := [.data, .pinned], laidTests := true, laidLooks := .later }
def FnExactParentCardSaid : Prop := Claim7.holds Tryd.pinned (.plain (OpenSpec.ofChange fnExactParentSpec)) fnExactParentCard

/-- THE TIED CARD OF 'laws.FnExactExtension'. -/
def fnExactExtensionCard : Claim7 := { stood := { row := fnExactExtensionRow, standIns := [], harness := (true, "7d813b1814f1efe4dfd80a289d891a1007b2454c49fb46751b3246ed94c5036d"), looks := false }, kinds := [], alts := [], laidByText := true, laidKinds := [.data, .pinned], laidTests := true, laidLooks := .later }
def FnExactExtensionCardSaid : Prop := Claim7.holds Tryd.pinned (.plain (OpenSpec.ofChange fnExactExtensionSpec)) fnExactExtensionCard

/-- THE SECOND FORM's CARD OF 'laws.FnExactPathOk'. -/
def fnExactPathOkUptoCard : Claim7 := { stood := { row := fnExactPathOkUptoRow, standIns := [], harness := (true, "7d813b1814f1efe4dfd80a289d891a1007b2454c49fb46751b3246ed94c5036d"), looks := false }, kinds := [], alts := [], laidByText := true, laidKinds := [.data, .pinned], laidTests := true, laidLooks := .later }
def FnExactPathOkUptoCardSaid : Prop := Claim7.holds Tryd.pinned (.plain (OpenSpec.upto fnExactPathOkSpec)) fnExactPathOkUptoCard

/-- THE SECOND FORM's CARD OF 'laws.FnExactParent'. -/
def fnExactParentUptoCard : Claim7 := { stood := { row := fnExactParentUptoRow, standIns := [], harness := (true, "7d813b1814f1efe4dfd80a289d891a1007b2454c49fb46751b3246ed94c5036d"), looks := false }, kinds := [], alts := [], laidByText := true, laidKinds := [.data, .pinned], laidTests := true, laidLooks := .later }
def FnExactParentUptoCardSaid : Prop := Claim7.holds Tryd.pinned (.plain (OpenSpec.upto fnExactParentSpec)) fnExactParentUptoCard

/-- THE SECOND FORM's CARD OF 'laws.FnExactExtension'. -/
def fnExactExtensionUptoCard : Claim7 := { stood := { row := fnExactExtensionUptoRow, standIns := [], harness := (true, "7d813b1814f1efe4dfd80a289d891a1007b2454c49fb46751b3246ed94c5036d"), looks := false }, kinds := [], alts := [], laidByText := true, laidKinds := [.data, .pinned], laidTests := true, laidLooks := .later }
def FnExactExtensionUptoCardSaid : Prop := Claim7.holds Tryd.pinned (.plain (OpenSpec.upto fnExactExtensionSpec)) fnExactExtensionUptoCard
end Rows
end Go.Proofs.YtmckchklebohmapDoor
