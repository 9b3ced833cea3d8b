/-
  DERIVED. GIVEN WITH THE SEED: THE CARDS: each row of YtmgealcolofomaaGreatDoorRows.lean that lists a variable, with what it lists TIED to the program's text (the seventh form; the later family's looks); each row that meets fmt, with fmt's text TOLD by the authors' own Lean function (tested against real Go, not proved from fmt's source: count such statements apart). THE CARD IS WHAT COUNTS. Prove the row's statement (the work); the ties are given (YtmgealcolofomaaGreatDoorTie.lean); close each card by the builder's one call (the guide's Derived/Test/ToyasCard.lean, 'card_holds'). Laid BY PROGRAM, IN A SANDBOX (cutbox-door.mjs). By AI agents, Wed Nov 11 2026. No macro, syntax, notation, axiom, sorry.
-/
import Derived.Test.YtmgealcolofomaaGreatDoorRows
import GoSem.ClaimSeven
namespace Go.Proofs.YtmgealcolofomaaGreatDoor
namespace Rows

/-- THE TIED CARD OF 'wickkeep.SerialOne'. -/
def serialOneCard : Claim7 := { stood := { row := serialOneRow, standIns := [], harness := (true, "196f01654267c12633204ec7df72524df049b8b36a5ca55e8000262774fd3be4"), looks := false }, kinds := [], alts := [], laidByText := true, laidKinds := [.data, .data, .data, .data, .pinned], laidTests := true, laidLooks := .later }
def SerialOneCardSaid : Prop := Claim7.holds Tryz.pinned (.plain (OpenSpec.ofChange serialOneSpec)) serialOneCard

/-- THE TIED CARD OF 'wickkeep.SerialAgain'. -/
def serialAgainCard : Claim7 := { stood := { row := serialAgainRow, standIns := [], harness := (true, "196f01654267c12633204ec7df72524df049b8b36a5ca55e8000262774fd3be4"), looks := false }, kinds := [], alts := [], laidByText := true, laidKinds := [.data, .data, .data, .data, .pinned], laidTests := true, laidLooks := .later }
def SerialAgainCardSaid : Prop := Claim7.holds Tryz.pinned (.plain (OpenSpec.ofChange serialAgainSpec)) serialAgainCard

/-- THE SECOND FORM's CARD OF 'wickkeep.SerialOne'. -/
def serialOneUptoCard : Claim7 := { stood := { row := serialOneUptoRow, standIns := [], harness := (true, "196f01654267c12633204ec7df72524df049b8b36a5ca55e8000262774fd3be4"), looks := false }, kinds := [], alts := [], laidByText := true, laidKinds := [.data, .data, .data, .data, .pinned], laidTests := true, laidLooks := .later }
def SerialOneUptoCardSaid : Prop := Claim7.holds Tryz.pinned (.plain (OpenSpec.upto serialOneSpec)) serialOneUptoCard

/-- THE SECOND FORM's CARD OF 'wickkeep.SerialAgain'. -/
def serialAgainUptoCard : Claim7 := { stood := { row := serialAgainUptoRow, standIns := [], harness := (true, "196f01654267c12633204ec7df72524df049b8b36a5ca55e8000262774fd3be4"), looks := false }, kinds := [], alts := [], laidByText := true, laidKinds := [.data, .data, .data, .data, .pinned], laidTests := true, laidLooks := .later }
def SerialAgainUptoCardSaid : Prop := Claim7.holds Tryz.pinned (.plain (OpenSpec.upto serialAgainSpec)) serialAgainUptoCard
end Rows
end Go.Proofs.YtmgealcolofomaaGreatDoor
