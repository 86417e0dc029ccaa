/-
  DERIVED. GIVEN WITH THE SEED: THE CARDS: each row of YtnkahdidelhdaabDoorRows.lean that lists a variable, with what it lists TIED to the program's text (the seventh form; the later family's looks); each row that meets fmt, with fmt's text TOLD by the authors' own Lean function (tested against real Go, not proved from fmt's source: count such statements apart). THE CARD IS WHAT COUNTS. Prove the row's statement (the work); the ties are given (YtnkahdidelhdaabDoorTie.lean); close each card by the builder's one call (the guide's Derived/Test/ToyasCard.lean, 'card_holds'). Laid BY PROGRAM, IN A SANDBOX (cutbox-door.mjs). By AI agents, Wed Nov 11 2026. No macro, syntax, notation, axiom, sorry.
-/
import Derived.Test.YtnkahdidelhdaabDoorRows
import GoSem.ClaimSeven
namespace Go.Proofs.YtnkahdidelhdaabDoor
namespace Rows

/-- THE TIED CARD OF 'laws.FnStretched'. -/
def fnStretchedCard : Claim7 := { stood := { row := fnStretchedRow, standIns := [], harness := (true, "e2d9ff6f5b12b5eec3556f02db28a48c1f8579e30845a69b875e9a7b3f309247"), looks := true }, kinds := [], alts := [], laidByText := true, laidKinds := [.data], laidTests := true, laidLooks := .later }
def FnStretchedCardSaid : Prop := Claim7.holds Tryd.pinned (.plain (OpenSpec.ofChange fnStretchedSpec)) fnStretchedCard

/-- THE TIED CARD OF 'laws.FnSealed'. -/
def fnSealedCard : Claim7 := { stood := { row := fnSealedRow, standIns := [], harness := (true, "e2d9ff6f5b12b5eec3556f02db28a48c1f8579e30845a69b875e9a7b3f309247"), looks := true }, kinds := [], alts := [], laidByText := true, laidKinds := [.data, .sentinel], laidTests := true, laidLooks := .later }
def FnSealedCardSaid : Prop := Claim7.holds Tryd.pinned (.plain (OpenSpec.ofChange fnSealedSpec)) fnSealedCard

/-- THE SECOND FORM's CARD OF 'laws.FnStretched'. -/
def fnStretchedUptoCard : Claim7 := { stood := { row := fnStretchedUptoRow, standIns := [], harness := (true, "e2d9ff6f5b12b5eec3556f02db28a48c1f8579e30845a69b875e9a7b3f309247"), looks := true }, kinds := [], alts := [], laidByText := true, laidKinds := [.data], laidTests := true, laidLooks := .later }
def FnStretchedUptoCardSaid : Prop := Claim7.holds Tryd.pinned (.plain (OpenSpec.upto fnStretchedSpec)) fnStretchedUptoCard

/-- THE SECOND FORM's CARD OF 'laws.FnSealed'. -/
def fnSealedUptoCard : Claim7 := { stood := { row := fnSealedUptoRow, standIns := [], harness := (true, "e2d9ff6f5b12b5eec3556f02db28a48c1f8579e30845a69b875e9a7b3f309247"), looks := true }, kinds := [], alts := [], laidByText := true, laidKinds := [.data, .sentinel], laidTests := true, laidLooks := .later }
def FnSealedUptoCardSaid : Prop := Claim7.holds Tryd.pinned (.plain (OpenSpec.upto fnSealedSpec)) fnSealedUptoCard
end Rows
end Go.Proofs.YtnkahdidelhdaabDoor
