/-
  DERIVED. GIVEN WITH THE SEED: THE CARDS: each row of YtjpclmkekmkddaaGreatDoorRows.lean that lists a variable, with what it lists TIED to the program's text (the seventh form; the later family's looks); each row that meets fmt, with fmt's text TOLD by the authors' own Lean function (tested against real Go, not proved from fmt's source: count such statements apart). THE CARD IS WHAT COUNTS. Prove the row's statement (the work); the ties are given (YtjpclmkekmkddaaGreatDoorTie.lean); close each card by the builder's one call (the guide's Derived/Test/ToyasCard.lean, 'card_holds'). Laid BY PROGRAM, IN A SANDBOX (cutbox-door.mjs). By AI agents, Wed Nov 11 2026. No macro, syntax, notation, axiom, sorry.
-/
import Derived.Test.YtjpclmkekmkddaaGreatDoorRows
import GoSem.ClaimSeven
namespace Go.Proofs.YtjpclmkekmkddaaGreatDoor
namespace Rows

/-- THE TIED CARD OF 'wicklaw.OneSays'. -/
def oneSaysCard : Claim7 := { stood := { row := oneSaysRow, standIns := [], harness := (true, "5e4c761184d10d19871952db8d7502bfbdcfd0a53d107986736814296afed462"), looks := false }, kinds := [], alts := [], laidByText := true, laidKinds := [.data, .pinned], laidTests := true, laidLooks := .later }
def OneSaysCardSaid : Prop := Claim7.holds Tryz.pinned (.plain (OpenSpec.ofChange oneSaysSpec)) oneSaysCard

/-- THE TIED CARD OF 'wicklaw.OneFeeds'. -/
def oneFeedsCard : Claim7 := { stood := { row := oneFeedsRow, standIns := [], harness := (true, "5e4c761184d10d19871952db8d7502bfbdcfd0a53d107986736814296afed462"), looks := false }, kinds := [], alts := [], laidByText := true, laidKinds := [.data, .pinned], laidTests := true, laidLooks := .later }
def OneFeedsCardSaid : Prop := Claim7.holds Tryz.pinned (.plain (OpenSpec.ofChange oneFeedsSpec)) oneFeedsCard

/-- THE TIED CARD OF 'wickkeep.OneBack'. -/
def oneBackCard : Claim7 := { stood := { row := oneBackRow, standIns := [], harness := (true, "5e4c761184d10d19871952db8d7502bfbdcfd0a53d107986736814296afed462"), looks := false }, kinds := [], alts := [], laidByText := true, laidKinds := [.data, .data, .data, .data, .pinned], laidTests := true, laidLooks := .later }
def OneBackCardSaid : Prop := Claim7.holds Tryz.pinned (.plain (OpenSpec.ofChange oneBackSpec)) oneBackCard

/-- THE SECOND FORM's CARD OF 'wicklaw.OneSays'. -/
def oneSaysUptoCard : Claim7 := { stood := { row := oneSaysUptoRow, standIns := [], harness := (true, "5e4c761184d10d19871952db8d7502bfbdcfd0a53d107986736814296afed462"), looks := false }, kinds := [], alts := [], laidByText := true, laidKinds := [.data, .pinned], laidTests := true, laidLooks := .later }
def OneSaysUptoCardSaid : Prop := Claim7.holds Tryz.pinned (.plain (OpenSpec.upto oneSaysSpec)) oneSaysUptoCard

/-- THE SECOND FORM's CARD OF 'wicklaw.OneFeeds'. -/
def oneFeedsUptoCard : Claim7 := { stood := { row := oneFeedsUptoRow, standIns := [], harness := (true, "5e4c761184d10d19871952db8d7502bfbdcfd0a53d107986736814296afed462"), looks := false }, kinds := [], alts := [], laidByText := true, laidKinds := [.data, .pinned], laidTests := true, laidLooks := .later }
def OneFeedsUptoCardSaid : Prop := Claim7.holds Tryz.pinned (.plain (OpenSpec.upto oneFeedsSpec)) oneFeedsUptoCard

/-- THE SECOND FORM's CARD OF 'wickkeep.OneBack'. -/
def oneBackUptoCard : Claim7 := { stood := { row := oneBackUptoRow, standIns := [], harness := (true, "5e4c761184d10d19871952db8d7502bfbdcfd0a53d107986736814296afed462"), looks := false }, kinds := [], alts := [], laidByText := true, laidKinds := [.data, .data, .data, .data, .pinned], laidTests := true, laidLooks := .later }
def OneBackUptoCardSaid : Prop := Claim7.holds Tryz.pinned (.plain (OpenSpec.upto oneBackSpec)) oneBackUptoCard
end Rows
end Go.Proofs.YtjpclmkekmkddaaGreatDoor
