/-
  DERIVED. GIVEN WITH THE SEED: THE CARDS: each row of YtloidooaebhliaaDoorRows.lean that lists a variable, with what it lists TIED to the program's text (the seventh form; the later family's looks); each row that meets fmt, with fmt's text TOLD by the authors' own Lean function (tested against real Go, not proved from fmt's source: count such statements apart). THE CARD IS WHAT COUNTS. Prove the row's statement (the work); the ties are given (YtloidooaebhliaaDoorTie.lean); close each card by the builder's one call (the guide's Derived/Test/ToyasCard.lean, 'card_holds'). Laid BY PROGRAM, IN A SANDBOX (cutbox-door.mjs). By AI agents, Wed Nov 11 2026. No macro, syntax, notation, axiom, sorry.
-/
import Derived.Test.YtloidooaebhliaaDoorRows
import GoSem.ClaimSeven
namespace Go.Proofs.YtloidooaebhliaaDoor
namespace Rows

/-- THE TIED CARD OF 'wicklaw.NetsBytes'. -/
def netsBytesCard : Claim7 := { stood := { row := netsBytesRow, standIns := [], harness := (true, "5595797f28ce01735bb454ed1be875c9df463df6b091fc654720647eaa65af3c"), looks := false }, kinds := [], alts := [], laidByText := true, laidKinds := [.data, .pinned], laidTests := true, laidLooks := .later }
def NetsBytesCardSaid : Prop := Claim7.holds Tryd.pinned (.plain (OpenSpec.ofChange netsBytesSpec)) netsBytesCard

/-- THE TIED CARD OF 'wicklaw.HeadSays'. -/
def headSaysCard : Claim7 := { stood := { row := headSaysRow, standIns := [], harness := (true, "5595797f28ce01735bb454ed1be875c9df463df6b091fc654720647eaa65af3c"), looks := false }, kinds := [], alts := [], laidByText := true, laidKinds := [.data, .pinned], laidTests := true, laidLooks := .later }
def HeadSaysCardSaid : Prop := Claim7.holds Tryd.pinned (.plain (OpenSpec.ofChange headSaysSpec)) headSaysCard

/-- THE TIED CARD OF 'wicklaw.HeadReads'. -/
def headReadsCard : Claim7 := { stood := { row := headReadsRow, standIns := [], harness := (true, "5595797f28ce01735bb454ed1be875c9df463df6b091fc654720647eaa65af3c"), looks := false }, kinds := [], alts := [], laidByText := true, laidKinds := [.data, .pinned], laidTests := true, laidLooks := .later }
def HeadReadsCardSaid : Prop := Claim7.holds Tryd.pinned (.plain (OpenSpec.ofChange headReadsSpec)) headReadsCard

/-- THE TIED CARD OF 'wickkeep.NetsRanges'. -/
def netsRangesCard : Claim7 := { stood := { row := netsRangesRow, standIns := [], harness := (true, "5595797f28ce01735bb454ed1be875c9df463df6b091fc654720647eaa65af3c"), looks := false }, kinds := [], alts := [], laidByText := true, laidKinds := [.data, .pinned], laidTests := true, laidLooks := .later }
def NetsRangesCardSaid : Prop := Claim7.holds Tryd.pinned (.plain (OpenSpec.ofChange netsRangesSpec)) netsRangesCard

/-- THE TIED CARD OF 'wickkeep.HeadBack'. -/
def headBackCard : Claim7 := { stood := { row := headBackRow, standIns := [], harness := (true, "5595797f28ce01735bb454ed1be875c9df463df6b091fc654720647eaa65af3c"), looks := false }, kinds := [], alts := [], laidByText := true, laidKinds := [.data, .pinned], laidTests := true, laidLooks := .later }
def HeadBackCardSaid : Prop := Claim7.holds Tryd.pinned (.plain (OpenSpec.ofChange headBackSpec)) headBackCard

/-- THE SECOND FORM's CARD OF 'wicklaw.NetsBytes'. -/
def netsBytesUptoCard : Claim7 := { stood := { row := netsBytesUptoRow, standIns := [], harness := (true, "5595797f28ce01735bb454ed1be875c9df463df6b091fc654720647eaa65af3c"), looks := false }, kinds := [], alts := [], laidByText := true, laidKinds := [.data, .pinned], laidTests := true, laidLooks := .later }
def NetsBytesUptoCardSaid : Prop := Claim7.holds Tryd.pinned (.plain (OpenSpec.upto netsBytesSpec)) netsBytesUptoCard

/-- THE SECOND FORM's CARD OF 'wicklaw.HeadSays'. -/
def headSaysUptoCard : Claim7 := { stood := { row := headSaysUptoRow, standIns := [], harness := (true, "5595797f28ce01735bb454ed1be875c9df463df6b091fc654720647eaa65af3c"), looks := false }, kinds := [], alts := [], laidByText := true, laidKinds := [.data, .pinned], laidTests := true, laidLooks := .later }
def HeadSaysUptoCardSaid : Prop := Claim7.holds Tryd.pinned (.plain (OpenSpec.upto headSaysSpec)) headSaysUptoCard

/-- THE SECOND FORM's CARD OF 'wicklaw.HeadReads'. -/
def headReadsUptoCard : Claim7 := { stood := { row := headReadsUptoRow, standIns := [], harness := (true, "5595797f28ce01735bb454ed1be875c9df463df6b091fc654720647eaa65af3c"), looks := false }, kinds := [], alts := [], laidByText := true, laidKinds := [.data, .pinned], laidTests := true, laidLooks := .later }
def HeadReadsUptoCardSaid : Prop := Claim7.holds Tryd.pinned (.plain (OpenSpec.upto headReadsSpec)) headReadsUptoCard

/-- THE SECOND FORM's CARD OF 'wickkeep.NetsRanges'. -/
def netsRangesUptoCard : Claim7 := { stood := { row := netsRangesUptoRow, standIns := [], harness := (true, "5595797f28ce01735bb454ed1be875c9df463df6b091fc654720647eaa65af3c"), looks := false }, kinds := [], alts := [], laidByText := true, laidKinds := [.data, .pinned], laidTests := true, laidLooks := .later }
def NetsRangesUptoCardSaid : Prop := Claim7.holds Tryd.pinned (.plain (OpenSpec.upto netsRangesSpec)) netsRangesUptoCard

/-- THE SECOND FORM's CARD OF 'wickkeep.HeadBack'. -/
def headBackUptoCard : Claim7 := { stood := { row := headBackUptoRow, standIns := [], harness := (true, "5595797f28ce01735bb454ed1be875c9df463df6b091fc654720647eaa65af3c"), looks := false }, kinds := [], alts := [], laidByText := true, laidKinds := [.data, .pinned], laidTests := true, laidLooks := .later }
def HeadBackUptoCardSaid : Prop := Claim7.holds Tryd.pinned (.plain (OpenSpec.upto headBackSpec)) headBackUptoCard
end Rows
end Go.Proofs.YtloidooaebhliaaDoor
