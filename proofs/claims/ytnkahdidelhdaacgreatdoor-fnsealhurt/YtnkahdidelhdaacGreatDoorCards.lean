/-
  DERIVED. GIVEN WITH THE SEED: THE CARDS: each row of YtnkahdidelhdaacGreatDoorRows.lean that lists a variable, with what it lists TIED to the program's text (the seventh form; the later family's looks); each row that meets fmt, with fmt's text TOLD by the authors' own Lean function (tested against real Go, not proved from fmt's source: count such statements apart). THE CARD IS WHAT COUNTS. Prove the row's statement (the work); the ties are given (YtnkahdidelhdaacGreatDoorTie.lean); close each card by the builder's one call (the guide's Derived/Test/ToyasCard.lean, 'card_holds'). Laid BY PROGRAM, IN A SANDBOX (cutbox-door.mjs). By AI agents, Wed Nov 11 2026. No macro, syntax, notation, axiom, sorry.
-/
import Derived.Test.YtnkahdidelhdaacGreatDoorRows
import GoSem.ClaimSeven
namespace Go.Proofs.YtnkahdidelhdaacGreatDoor
namespace Rows

/-- THE TIED CARD OF 'laws.FnSealHurt'. -/
def fnSealHurtCard : Claim7 := { stood := { row := fnSealHurtRow, standIns := [], harness := (true, "f02d440dc211a8525643501c45bff44b186bd75b833b9c5c93e8e62ea4d8959c"), looks := true }, kinds := [], alts := [], laidByText := true, laidKinds := [.data, .sentinel], laidTests := true, laidLooks := .later }
def FnSealHurtCardSaid : Prop := Claim7.holds Tryz.pinned (.plain (OpenSpec.ofChange fnSealHurtSpec)) fnSealHurtCard

/-- THE SECOND FORM's CARD OF 'laws.FnSealHurt'. -/
def fnSealHurtUptoCard : Claim7 := { stood := { row := fnSealHurtUptoRow, standIns := [], harness := (true, "f02d440dc211a8525643501c45bff44b186bd75b833b9c5c93e8e62ea4d8959c"), looks := true }, kinds := [], alts := [], laidByText := true, laidKinds := [.data, .sentinel], laidTests := true, laidLooks := .later }
def FnSealHurtUptoCardSaid : Prop := Claim7.holds Tryz.pinned (.plain (OpenSpec.upto fnSealHurtSpec)) fnSealHurtUptoCard
end Rows
end Go.Proofs.YtnkahdidelhdaacGreatDoor
