/-
  DERIVED. GIVEN WITH THE SEED: THE CARDS: each row of YtgemdegdimeniaaDoorRows.lean that lists a variable, with what it lists TIED to the program's text (the seventh form; the later family's looks); each row that meets fmt, with fmt's text TOLD by the authors' own Lean function (tested against real Go, not proved from fmt's source: count such statements apart). THE CARD IS WHAT COUNTS. Prove the row's statement (the work); the ties are given (YtgemdegdimeniaaDoorTie.lean); close each card by the builder's one call (the guide's Derived/Test/ToyasCard.lean, 'card_holds'). Laid BY PROGRAM, IN A SANDBOX (cutbox-door.mjs). By AI agents, Wed Nov 11 2026. No macro, syntax, notation, axiom, sorry.
-/
import Derived.Test.YtgemdegdimeniaaDoorRows
import GoSem.ClaimSeven
namespace Go.Proofs.YtgemdegdimeniaaDoor
namespace Rows

/-- THE TIED CARD OF 'laws.FnDigests'. -/
def fnDigestsCard : Claim7 := { stood := { row := fnDigestsRow, standIns := [], harness := (true, "5ab6be7ec9fb1793854813935eeed2d9359cfae5b3139d8dced38138e6f1fa19"), looks := false }, kinds := [], alts := [], laidByText := true, laidKinds := [.data], laidTests := true, laidLooks := .later }
def FnDigestsCardSaid : Prop := Claim7.holds Tryd.pinned (.plain (OpenSpec.ofChange fnDigestsSpec)) fnDigestsCard

/-- THE TIED CARD OF 'laws.FnMacs'. -/
def fnMacsCard : Claim7 := { stood := { row := fnMacsRow, standIns := [], harness := (true, "5ab6be7ec9fb1793854813935eeed2d9359cfae5b3139d8dced38138e6f1fa19"), looks := false }, kinds := [], alts := [], laidByText := true, laidKinds := [.data], laidTests := true, laidLooks := .later }
def FnMacsCardSaid : Prop := Claim7.holds Tryd.pinned (.plain (OpenSpec.ofChange fnMacsSpec)) fnMacsCard

/-- THE SECOND FORM's CARD OF 'laws.FnDigests'. -/
def fnDigestsUptoCard : Claim7 := { stood := { row := fnDigestsUptoRow, standIns := [], harness := (true, "5ab6be7ec9fb1793854813935eeed2d9359cfae5b3139d8dced38138e6f1fa19"), looks := false }, kinds := [], alts := [], laidByText := true, laidKinds := [.data], laidTests := true, laidLooks := .later }
def FnDigestsUptoCardSaid : Prop := Claim7.holds Tryd.pinned (.plain (OpenSpec.upto fnDigestsSpec)) fnDigestsUptoCard

/-- THE SECOND FORM's CARD OF 'laws.FnMacs'. -/
def fnMacsUptoCard : Claim7 := { stood := { row := fnMacsUptoRow, standIns := [], harness := (true, "5ab6be7ec9fb1793854813935eeed2d9359cfae5b3139d8dced38138e6f1fa19"), looks := false }, kinds := [], alts := [], laidByText := true, laidKinds := [.data], laidTests := true, laidLooks := .later }
def FnMacsUptoCardSaid : Prop := Claim7.holds Tryd.pinned (.plain (OpenSpec.upto fnMacsSpec)) fnMacsUptoCard
end Rows
end Go.Proofs.YtgemdegdimeniaaDoor
