/-
  DERIVED. GIVEN WITH THE SEED: THE CARDS: each row of YtjpclmkekmkddaaDoorRows.lean that lists a variable, with what it lists TIED to the program's text (the seventh form; the later family's looks); each row that meets fmt, with fmt's text TOLD by the authors' own Lean function (tested against real Go, not proved from fmt's source: count such statements apart). THE CARD IS WHAT COUNTS. Prove the row's statement (the work); the ties are given (YtjpclmkekmkddaaDoorTie.lean); close each card by the builder's one call (the guide's Derived/Test/ToyasCard.lean, 'card_holds'). Laid BY PROGRAM, IN A SANDBOX (cutbox-door.mjs). By AI agents, Wed Nov 11 2026. No macro, syntax, notation, axiom, sorry.
-/
import Derived.Test.YtjpclmkekmkddaaDoorRows
import GoSem.ClaimSeven
namespace Go.Proofs.YtjpclmkekmkddaaDoor
namespace Rows

/-- THE TIED CARD OF 'wickkeep.ProgSame'. -/
def progSameCard : Claim7 := { stood := { row := progSameRow, standIns := [], harness := (true, "bc16a8dd21afbbb9cc94522dee8d7af77a62d85bdd9b4de490d0a0fa2d7a5a3b"), looks := false }, kinds := [], alts := [], laidByText := true, laidKinds := [.data], laidTests := true, laidLooks := .later }
def ProgSameCardSaid : Prop := Claim7.holds Tryd.pinned (.plain (OpenSpec.ofChange progSameSpec)) progSameCard

/-- THE TIED CARD OF 'wickkeep.OneCuts'. -/
def oneCutsCard : Claim7 := { stood := { row := oneCutsRow, standIns := [], harness := (true, "bc16a8dd21afbbb9cc94522dee8d7af77a62d85bdd9b4de490d0a0fa2d7a5a3b"), looks := false }, kinds := [], alts := [], laidByText := true, laidKinds := [.data, .pinned], laidTests := true, laidLooks := .later }
def OneCutsCardSaid : Prop := Claim7.holds Tryd.pinned (.plain (OpenSpec.ofChange oneCutsSpec)) oneCutsCard

/-- THE SECOND FORM's CARD OF 'wickkeep.ProgSame'. -/
def progSameUptoCard : Claim7 := { stood := { row := progSameUptoRow, standIns := [], harness := (true, "bc16a8dd21afbbb9cc94522dee8d7af77a62d85bdd9b4de490d0a0fa2d7a5a3b"), looks := false }, kinds := [], alts := [], laidByText := true, laidKinds := [.data], laidTests := true, laidLooks := .later }
def ProgSameUptoCardSaid : Prop := Claim7.holds Tryd.pinned (.plain (OpenSpec.upto progSameSpec)) progSameUptoCard

/-- THE SECOND FORM's CARD OF 'wickkeep.OneCuts'. -/
def oneCutsUptoCard : Claim7 := { stood := { row := oneCutsUptoRow, standIns := [], harness := (true, "bc16a8dd21afbbb9cc94522dee8d7af77a62d85bdd9b4de490d0a0fa2d7a5a3b"), looks := false }, kinds := [], alts := [], laidByText := true, laidKinds := [.data, .pinned], laidTests := true, laidLooks := .later }
def OneCutsUptoCardSaid : Prop := Claim7.holds Tryd.pinned (.plain (OpenSpec.upto oneCutsSpec)) oneCutsUptoCard
end Rows
end Go.Proofs.YtjpclmkekmkddaaDoor
