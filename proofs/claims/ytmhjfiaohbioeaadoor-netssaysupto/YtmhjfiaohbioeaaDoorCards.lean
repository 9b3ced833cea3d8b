/-
  DERIVED. GIVEN WITH THE SEED: THE CARDS: each row of YtmhjfiaohbioeaaDoorRows.lean that lists a variable, with what it lists TIED to the program's text (the seventh form; the later family's looks); each row that meets fmt, with fmt's text TOLD by the authors' own Lean function (tested against real Go, not proved from fmt's source: count such statements apart). THE CARD IS WHAT COUNTS. Prove the row's statement (the work); the ties are given (YtmhjfiaohbioeaaDoorTie.lean); close each card by the builder's one call (the guide's Derived/Test/ToyasCard.lean, 'card_holds'). Laid BY PROGRAM, IN A SANDBOX (cutbox-door.mjs). By AI agents, Wed Nov 11 2026. No macro, syntax, notation, axiom, sorry.
-/
import Derived.Test.YtmhjfiaohbioeaaDoorRows
import GoSem.ClaimSeven
namespace Go.Proofs.YtmhjfiaohbioeaaDoor
namespace Rows

/-- THE TIED CARD OF 'wicklaw.NetsSays'. -/
def netsSaysCard : Claim7 := { stood := { row := netsSaysRow, standIns := [], harness := (true, "353fe0f5bf40b8bf9a2873e2741bf0e35f8c8d3ede9ad2257be94c9ade06e8d3"), looks := false }, kinds := [], alts := [], laidByText := true, laidKinds := [.data, .data, .data, .data, .pinned], laidTests := true, laidLooks := .later }
def NetsSaysCardSaid : Prop := Claim7.holds Tryd.pinned (.plain (OpenSpec.ofChange netsSaysSpec)) netsSaysCard

/-- THE TIED CARD OF 'wicklaw.NetsBytes'. -/
def netsBytesCard : Claim7 := { stood := { row := netsBytesRow, standIns := [], harness := (true, "353fe0f5bf40b8bf9a2873e2741bf0e35f8c8d3ede9ad2257be94c9ade06e8d3"), looks := false }, kinds := [], alts := [], laidByText := true, laidKinds := [.data, .pinned], laidTests := true, laidLooks := .later }
def NetsBytesCardSaid : Prop := Claim7.holds Tryd.pinned (.plain (OpenSpec.ofChange netsBytesSpec)) netsBytesCard

/-- THE TIED CARD OF 'wickkeep.NetsBack'. -/
def netsBackCard : Claim7 := { stood := { row := netsBackRow, standIns := [], harness := (true, "353fe0f5bf40b8bf9a2873e2741bf0e35f8c8d3ede9ad2257be94c9ade06e8d3"), looks := false }, kinds := [], alts := [], laidByText := true, laidKinds := [.data, .data, .data], laidTests := true, laidLooks := .later }
def NetsBackCardSaid : Prop := Claim7.holds Tryd.pinned (.plain (OpenSpec.ofChange netsBackSpec)) netsBackCard

/-- THE TIED CARD OF 'wickkeep.NetsOne'. -/
def netsOneCard : Claim7 := { stood := { row := netsOneRow, standIns := [], harness := (true, "353fe0f5bf40b8bf9a2873e2741bf0e35f8c8d3ede9ad2257be94c9ade06e8d3"), looks := false }, kinds := [], alts := [], laidByText := true, laidKinds := [.data, .data, .data, .data, .pinned], laidTests := true, laidLooks := .later }
def NetsOneCardSaid : Prop := Claim7.holds Tryd.pinned (.plain (OpenSpec.ofChange netsOneSpec)) netsOneCard

/-- THE SECOND FORM's CARD OF 'wicklaw.NetsSays'. -/
def netsSaysUptoCard : Claim7 := { stood := { row := netsSaysUptoRow, standIns := [], harness := (true, "353fe0f5bf40b8bf9a2873e2741bf0e35f8c8d3ede9ad2257be94c9ade06e8d3"), looks := false }, kinds := [], alts := [], laidByText := true, laidKinds := [.data, .data, .data, .data, .pinned], laidTests := true, laidLooks := .later }
def NetsSaysUptoCardSaid : Prop := Claim7.holds Tryd.pinned (.plain (OpenSpec.upto netsSaysSpec)) netsSaysUptoCard

/-- THE SECOND FORM's CARD OF 'wicklaw.NetsBytes'. -/
def netsBytesUptoCard : Claim7 := { stood := { row := netsBytesUptoRow, standIns := [], harness := (true, "353fe0f5bf40b8bf9a2873e2741bf0e35f8c8d3ede9ad2257be94c9ade06e8d3"), looks := false }, kinds := [], alts := [], laidByText := true, laidKinds := [.data, .pinned], laidTests := true, laidLooks := .later }
def NetsBytesUptoCardSaid : Prop := Claim7.holds Tryd.pinned (.plain (OpenSpec.upto netsBytesSpec)) netsBytesUptoCard

/-- THE SECOND FORM's CARD OF 'wickkeep.NetsBack'. -/
def netsBackUptoCard : Claim7 := { stood := { row := netsBackUptoRow, standIns := [], harness := (true, "353fe0f5bf40b8bf9a2873e2741bf0e35f8c8d3ede9ad2257be94c9ade06e8d3"), looks := false }, kinds := [], alts := [], laidByText := true, laidKinds := [.data, .data, .data], laidTests := true, laidLooks := .later }
def NetsBackUptoCardSaid : Prop := Claim7.holds Tryd.pinned (.plain (OpenSpec.upto netsBackSpec)) netsBackUptoCard

/-- THE SECOND FORM's CARD OF 'wickkeep.NetsOne'. -/
def netsOneUptoCard : Claim7 := { stood := { row := netsOneUptoRow, standIns := [], harness := (true, "353fe0f5bf40b8bf9a2873e2741bf0e35f8c8d3ede9ad2257be94c9ade06e8d3"), looks := false }, kinds := [], alts := [], laidByText := true, laidKinds := [.data, .data, .data, .data, .pinned], laidTests := true, laidLooks := .later }
def NetsOneUptoCardSaid : Prop := Claim7.holds Tryd.pinned (.plain (OpenSpec.upto netsOneSpec)) netsOneUptoCard
end Rows
end Go.Proofs.YtmhjfiaohbioeaaDoor
