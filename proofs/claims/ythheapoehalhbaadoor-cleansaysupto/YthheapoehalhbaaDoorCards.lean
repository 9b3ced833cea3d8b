/-
  DERIVED. GIVEN WITH THE SEED: THE CARDS: each row of YthheapoehalhbaaDoorRows.lean that lists a variable, with what it lists TIED to the program's text (the seventh form; the later family's looks); each row that meets fmt, with fmt's text TOLD by the authors' own Lean function (tested against real Go, not proved from fmt's source: count such statements apart). THE CARD IS WHAT COUNTS. Prove the row's statement (the work); the ties are given (YthheapoehalhbaaDoorTie.lean); close each card by the builder's one call (the guide's Derived/Test/ToyasCard.lean, 'card_holds'). Laid BY PROGRAM, IN A SANDBOX (cutbox-door.mjs). By AI agents, Wed Nov 11 2026. No macro, syntax, notation, axiom, sorry.
-/
import Derived.Test.YthheapoehalhbaaDoorRows
import GoSem.ClaimSeven
namespace Go.Proofs.YthheapoehalhbaaDoor
namespace Rows

/-- THE TIED CARD OF 'wicklaw.CleanSays'. -/
def cleanSaysCard : Claim7 := { stood := { row := cleanSaysRow, standIns := [], harness := (true, "9bce3d704e87c9274bede71e197f43621947dd20e15ae92398560b9489a4c69a"), looks := false }, kinds := [], alts := [], laidByText := true, laidKinds := [.data, .pinned], laidTests := true, laidLooks := .later }
def CleanSaysCardSaid : Prop := Claim7.holds Tryd.pinned (.plain (OpenSpec.ofChange cleanSaysSpec)) cleanSaysCard

/-- THE TIED CARD OF 'wickkeep.CleanPaths'. -/
def cleanPathsCard : Claim7 := { stood := { row := cleanPathsRow, standIns := [], harness := (true, "9bce3d704e87c9274bede71e197f43621947dd20e15ae92398560b9489a4c69a"), looks := false }, kinds := [], alts := [], laidByText := true, laidKinds := [.data, .pinned], laidTests := true, laidLooks := .later }
def CleanPathsCardSaid : Prop := Claim7.holds Tryd.pinned (.plain (OpenSpec.ofChange cleanPathsSpec)) cleanPathsCard

/-- THE TIED CARD OF 'wickkeep.CleanAgain'. -/
def cleanAgainCard : Claim7 := { stood := { row := cleanAgainRow, standIns := [], harness := (true, "9bce3d704e87c9274bede71e197f43621947dd20e15ae92398560b9489a4c69a"), looks := false }, kinds := [], alts := [], laidByText := true, laidKinds := [.data, .pinned], laidTests := true, laidLooks := .later }
def CleanAgainCardSaid : Prop := Claim7.holds Tryd.pinned (.plain (OpenSpec.ofChange cleanAgainSpec)) cleanAgainCard

/-- THE SECOND FORM's CARD OF 'wicklaw.CleanSays'. -/
def cleanSaysUptoCard : Claim7 := { stood := { row := cleanSaysUptoRow, standIns := [], harness := (true, "9bce3d704e87c9274bede71e197f43621947dd20e15ae92398560b9489a4c69a"), looks := false }, kinds := [], alts := [], laidByText := true, laidKinds := [.data, .pinned], laidTests := true, laidLooks := .later }
def CleanSaysUptoCardSaid : Prop := Claim7.holds Tryd.pinned (.plain (OpenSpec.upto cleanSaysSpec)) cleanSaysUptoCard

/-- THE SECOND FORM's CARD OF 'wickkeep.CleanPaths'. -/
def cleanPathsUptoCard : Claim7 := { stood := { row := cleanPathsUptoRow, standIns := [], harness := (true, "9bce3d704e87c9274bede71e197f43621947dd20e15ae92398560b9489a4c69a"), looks := false }, kinds := [], alts := [], laidByText := true, laidKinds := [.data, .pinned], laidTests := true, laidLooks := .later }
def CleanPathsUptoCardSaid : Prop := Claim7.holds Tryd.pinned (.plain (OpenSpec.upto cleanPathsSpec)) cleanPathsUptoCard

/-- THE SECOND FORM's CARD OF 'wickkeep.CleanAgain'. -/
def cleanAgainUptoCard : Claim7 := { stood := { row := cleanAgainUptoRow, standIns := [], harness := (true, "9bce3d704e87c9274bede71e197f43621947dd20e15ae92398560b9489a4c69a"), looks := false }, kinds := [], alts := [], laidByText := true, laidKinds := [.data, .pinned], laidTests := true, laidLooks := .later }
def CleanAgainUptoCardSaid : Prop := Claim7.holds Tryd.pinned (.plain (OpenSpec.upto cleanAgainSpec)) cleanAgainUptoCard
end Rows
end Go.Proofs.YthheapoehalhbaaDoor
