/-
  DERIVED. GIVEN WITH THE SEED: THE CARDS: each row of YtnkahdidelhdaalDoorRows.lean that lists a variable, with what it lists TIED to the program's text (the seventh form; the later family's looks); each row that meets fmt, with fmt's text TOLD by the authors' own Lean function (tested against real Go, not proved from fmt's source: count such statements apart). THE CARD IS WHAT COUNTS. Prove the row's statement (the work); the ties are given (YtnkahdidelhdaalDoorTie.lean); close each card by the builder's one call (the guide's Derived/Test/ToyasCard.lean, 'card_holds'). Laid BY PROGRAM, IN A SANDBOX (cutbox-door.mjs). By AI agents, Wed Nov 11 2026. No macro, syntax, notation, axiom, sorry.
-/
import Derived.Test.YtnkahdidelhdaalDoorRows
import GoSem.ClaimSeven
namespace Go.Proofs.YtnkahdidelhdaalDoor
namespace Rows

/-- THE TIED CARD OF 'laws.FnExactKeys'. -/
def fnExactKeysCard : Claim7 := { stood := { row := fnExactKeysRow, standIns := [], harness := (true, "d0eebecf4471b1151162738519f3e200047a094e5e08e73e2c7ee5e6f988dabf"), looks := true }, kinds := [], alts := [], laidByText := true, laidKinds := [.data, .sentinel], laidTests := true, laidLooks := .later }
def FnExactKeysCardSaid : Prop := Claim7.holds Tryd.pinned (.plain (OpenSpec.ofChange fnExactKeysSpec)) fnExactKeysCard

/-- THE TIED CARD OF 'laws.FnExactSeal'. -/
def fnExactSealCard : Claim7 := { stood := { row := fnExactSealRow, standIns := [], harness := (true, "d0eebecf4471b1151162738519f3e200047a094e5e08e73e2c7ee5e6f988dabf"), looks := true }, kinds := [], alts := [], laidByText := true, laidKinds := [.data, .sentinel], laidTests := true, laidLooks := .later }
def FnExactSealCardSaid : Prop := Claim7.holds Tryd.pinned (.plain (OpenSpec.ofChange fnExactSealSpec)) fnExactSealCard

/-- THE SECOND FORM's CARD OF 'laws.FnExactKeys'. -/
def fnExactKeysUptoCard : Claim7 := { stood := { row := fnExactKeysUptoRow, standIns := [], harness := (true, "d0eebecf4471b1151162738519f3e200047a094e5e08e73e2c7ee5e6f988dabf"), looks := true }, kinds := [], alts := [], laidByText := true, laidKinds := [.data, .sentinel], laidTests := true, laidLooks := .later }
def FnExactKeysUptoCardSaid : Prop := Claim7.holds Tryd.pinned (.plain (OpenSpec.upto fnExactKeysSpec)) fnExactKeysUptoCard

/-- THE SECOND FORM's CARD OF 'laws.FnExactSeal'. -/
def fnExactSealUptoCard : Claim7 := { stood := { row := fnExactSealUptoRow, standIns := [], harness := (true, "d0eebecf4471b1151162738519f3e200047a094e5e08e73e2c7ee5e6f988dabf"), looks := true }, kinds := [], alts := [], laidByText := true, laidKinds := [.data, .sentinel], laidTests := true, laidLooks := .later }
def FnExactSealUptoCardSaid : Prop := Claim7.holds Tryd.pinned (.plain (OpenSpec.upto fnExactSealSpec)) fnExactSealUptoCard
end Rows
end Go.Proofs.YtnkahdidelhdaalDoor
