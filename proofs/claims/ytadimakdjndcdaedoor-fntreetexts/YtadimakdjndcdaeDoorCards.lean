/-
  DERIVED. GIVEN WITH THE SEED: THE CARDS: each row of YtadimakdjndcdaeDoorRows.lean that lists a variable, with what it lists TIED to the program's text (the seventh form; the later family's looks); each row that meets fmt, with fmt's text TOLD by the authors' own Lean function (tested against real Go, not proved from fmt's source: count such statements apart). THE CARD IS WHAT COUNTS. Prove the row's statement (the work); the ties are given (YtadimakdjndcdaeDoorTie.lean); close each card by the builder's one call (the guide's Derived/Test/ToyasCard.lean, 'card_holds'). Laid BY PROGRAM, IN A SANDBOX (cutbox-door.mjs). By AI agents, Wed Nov 11 2026. No macro, syntax, notation, axiom, sorry.
-/
import Derived.Test.YtadimakdjndcdaeDoorRows
import GoSem.ClaimSeven
namespace Go.Proofs.YtadimakdjndcdaeDoor
namespace Rows

/-- THE TIED CARD OF 'laws.FnPaths'. -/
def fnPathsCard : Claim7 := { stood := { row := fnPathsRow, standIns := [], harness := (true, "c7d98252303ae37adb5f8e268de8b15491a5e8c34093048248d42d928592bf96"), looks := false }, kinds := [], alts := [], laidByText := true, laidKinds := [.data, .pinned], laidTests := true, laidLooks := .later }
def FnPathsCardSaid : Prop := Claim7.holds Tryd.pinned (.plain (OpenSpec.ofChange fnPathsSpec)) fnPathsCard

/-- THE TIED CARD OF 'laws.FnTreeTexts'. -/
def fnTreeTextsCard : Claim7 := { stood := { row := fnTreeTextsRow, standIns := [], harness := (true, "c7d98252303ae37adb5f8e268de8b15491a5e8c34093048248d42d928592bf96"), looks := false }, kinds := [], alts := [], laidByText := true, laidKinds := [.data, .pinned], laidTests := true, laidLooks := .later }
def FnTreeTextsCardSaid : Prop := Claim7.holds Tryd.pinned (.plain (OpenSpec.ofChange fnTreeTextsSpec)) fnTreeTextsCard

/-- THE TIED CARD OF 'laws.FnUnder'. -/
def fnUnderCard : Claim7 := { stood := { row := fnUnderRow, standIns := [], harness := (true, "c7d98252303ae37adb5f8e268de8b15491a5e8c34093048248d42d928592bf96"), looks := false }, kinds := [], alts := [], laidByText := true, laidKinds := [.data, .pinned], laidTests := true, laidLooks := .later }
def FnUnderCardSaid : Prop := Claim7.holds Tryd.pinned (.plain (OpenSpec.ofChange fnUnderSpec)) fnUnderCard

/-- THE TIED CARD OF 'laws.FnChanged'. -/
def fnChangedCard : Claim7 := { stood := { row := fnChangedRow, standIns := [], harness := (true, "c7d98252303ae37adb5f8e268de8b15491a5e8c34093048248d42d928592bf96"), looks := false }, kinds := [], alts := [], laidByText := true, laidKinds := [.data, .pinned], laidTests := true, laidLooks := .later }
def FnChangedCardSaid : Prop := Claim7.holds Tryd.pinned (.plain (OpenSpec.ofChange fnChangedSpec)) fnChangedCard

/-- THE SECOND FORM's CARD OF 'laws.FnPaths'. -/
def fnPathsUptoCard : Claim7 := { stood := { row := fnPathsUptoRow, standIns := [], harness := (true, "c7d98252303ae37adb5f8e268de8b15491a5e8c34093048248d42d928592bf96"), looks := false }, kinds := [], alts := [], laidByText := true, laidKinds := [.data, .pinned], laidTests := true, laidLooks := .later }
def FnPathsUptoCardSaid : Prop := Claim7.holds Tryd.pinned (.plain (OpenSpec.upto fnPathsSpec)) fnPathsUptoCard

/-- THE SECOND FORM's CARD OF 'laws.FnTreeTexts'. -/
def fnTreeTextsUptoCard : Claim7 := { stood := { row := fnTreeTextsUptoRow, standIns := [], harness := (true, "c7d98252303ae37adb5f8e268de8b15491a5e8c34093048248d42d928592bf96"), looks := false }, kinds := [], alts := [], laidByText := true, laidKinds := [.data, .pinned], laidTests := true, laidLooks := .later }
def FnTreeTextsUptoCardSaid : Prop := Claim7.holds Tryd.pinned (.plain (OpenSpec.upto fnTreeTextsSpec)) fnTreeTextsUptoCard

/-- THE SECOND FORM's CARD OF 'laws.FnUnder'. -/
def fnUnderUptoCard : Claim7 := { stood := { row := fnUnderUptoRow, standIns := [], harness := (true, "c7d98252303ae37adb5f8e268de8b15491a5e8c34093048248d42d928592bf96"), looks := false }, kinds := [], alts := [], laidByText := true, laidKinds := [.data, .pinned], laidTests := true, laidLooks := .later }
def FnUnderUptoCardSaid : Prop := Claim7.holds Tryd.pinned (.plain (OpenSpec.upto fnUnderSpec)) fnUnderUptoCard

/-- THE SECOND FORM's CARD OF 'laws.FnChanged'. -/
def fnChangedUptoCard : Claim7 := { stood := { row := fnChangedUptoRow, standIns := [], harness := (true, "c7d98252303ae37adb5f8e268de8b15491a5e8c34093048248d42d928592bf96"), looks := false }, kinds := [], alts := [], laidByText := true, laidKinds := [.data, .pinned], laidTests := true, laidLooks := .later }
def FnChangedUptoCardSaid : Prop := Claim7.holds Tryd.pinned (.plain (OpenSpec.upto fnChangedSpec)) fnChangedUptoCard
end Rows
end Go.Proofs.YtadimakdjndcdaeDoor
