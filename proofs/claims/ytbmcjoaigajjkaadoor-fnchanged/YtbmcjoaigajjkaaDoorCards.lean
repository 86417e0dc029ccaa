/-
  DERIVED. GIVEN WITH THE SEED: THE CARDS: each row of YtbmcjoaigajjkaaDoorRows.lean that lists a variable, with what it lists TIED to the program's text (the seventh form; the later family's looks); each row that meets fmt, with fmt's text TOLD by the authors' own Lean function (tested against real Go, not proved from fmt's source: count such statements apart). THE CARD IS WHAT COUNTS. Prove the row's statement (the work); the ties are given (YtbmcjoaigajjkaaDoorTie.lean); close each card by the builder's one call (the guide's Derived/Test/ToyasCard.lean, 'card_holds'). Laid BY PROGRAM, IN A SANDBOX (cutbox-door.mjs). By AI agents, Wed Nov 11 2026. No macro, syntax, notation, axiom, sorry.
-/
import Derived.Test.YtbmcjoaigajjkaaDoorRows
import GoSem.ClaimSeven
namespace Go.Proofs.YtbmcjoaigajjkaaDoor
namespace Rows

/-- THE TIED CARD OF 'laws.FnChanged'. -/
def fnChangedCard : Claim7 := { stood := { row := fnChangedRow, standIns := [], harness := (true, "b39175cd30609d33a4b57f84a912282a956142eb74f0c9a354d2d31d0469f4a9"), looks := false }, kinds := [], alts := [], laidByText := true, laidKinds := [.data, .pinned], laidTests := true, laidLooks := .later }
def FnChangedCardSaid : Prop := Claim7.holds Tryd.pinned (.plain (OpenSpec.ofChange fnChangedSpec)) fnChangedCard

/-- THE TIED CARD OF 'laws.FnExactCatalogOk'. -/
def fnExactCatalogOkCard : Claim7 := { stood := { row := fnExactCatalogOkRow, standIns := [], harness := (true, "b39175cd30609d33a4b57f84a912282a956142eb74f0c9a354d2d31d0469f4a9"), looks := false }, kinds := [], alts := [], laidByText := true, laidKinds := [.data, .pinned], laidTests := true, laidLooks := .later }
def FnExactCatalogOkCardSaid : Prop := Claim7.holds Tryd.pinned (.plain (OpenSpec.ofChange fnExactCatalogOkSpec)) fnExactCatalogOkCard

/-- THE SECOND FORM's CARD OF 'laws.FnChanged'. -/
def fnChangedUptoCard : Claim7 := { stood := { row := fnChangedUptoRow, standIns := [], harness := (true, "b39175cd30609d33a4b57f84a912282a956142eb74f0c9a354d2d31d0469f4a9"), looks := false }, kinds := [], alts := [], laidByText := true, laidKinds := [.data, .pinned], laidTests := true, laidLooks := .later }
def FnChangedUptoCardSaid : Prop := Claim7.holds Tryd.pinned (.plain (OpenSpec.upto fnChangedSpec)) fnChangedUptoCard

/-- THE SECOND FORM's CARD OF 'laws.FnExactCatalogOk'. -/
def fnExactCatalogOkUptoCard : Claim7 := { stood := { row := fnExactCatalogOkUptoRow, standIns := [], harness := (true, "b39175cd30609d33a4b57f84a912282a956142eb74f0c9a354d2d31d0469f4a9"), looks := false }, kinds := [], alts := [], laidByText := true, laidKinds := [.data, .pinned], laidTests := true, laidLooks := .later }
def FnExactCatalogOkUptoCardSaid : Prop := Claim7.holds Tryd.pinned (.plain (OpenSpec.upto fnExactCatalogOkSpec)) fnExactCatalogOkUptoCard
end Rows
end Go.Proofs.YtbmcjoaigajjkaaDoor
