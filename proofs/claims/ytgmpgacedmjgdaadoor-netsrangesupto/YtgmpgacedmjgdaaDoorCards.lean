/-
  DERIVED. GIVEN WITH THE SEED: THE CARDS: each row of YtgmpgacedmjgdaaDoorRows.lean that lists a variable, with what it lists TIED to the program's text (the seventh form; the later family's looks); each row that meets fmt, with fmt's text TOLD by the authors' own Lean function (tested against real Go, not proved from fmt's source: count such statements apart). THE CARD IS WHAT COUNTS. Prove the row's statement (the work); the ties are given (YtgmpgacedmjgdaaDoorTie.lean); close each card by the builder's one call (the guide's Derived/Test/ToyasCard.lean, 'card_holds'). Laid BY PROGRAM, IN A SANDBOX (cutbox-door.mjs). By AI agents, Wed Nov 11 2026. No macro, syntax, notation, axiom, sorry.
-/
import Derived.Test.YtgmpgacedmjgdaaDoorRows
import GoSem.ClaimSeven
namespace Go.Proofs.YtgmpgacedmjgdaaDoor
namespace Rows

/-- THE TIED CARD OF 'wicklaw.FrameSays'. -/
def frameSaysCard : Claim7 := { stood := { row := frameSaysRow, standIns := [], harness := (true, "c1db523bbb7680c57327ea04a137311cffb6759d18893111a557f5032849dbe8"), looks := false }, kinds := [], alts := [], laidByText := true, laidKinds := [.data, .data, .data], laidTests := true, laidLooks := .later }
def FrameSaysCardSaid : Prop := Claim7.holds Tryd.pinned (.plain (OpenSpec.ofChange frameSaysSpec)) frameSaysCard

/-- THE TIED CARD OF 'wickkeep.NetsRanges'. -/
def netsRangesCard : Claim7 := { stood := { row := netsRangesRow, standIns := [], harness := (true, "c1db523bbb7680c57327ea04a137311cffb6759d18893111a557f5032849dbe8"), looks := false }, kinds := [], alts := [], laidByText := true, laidKinds := [.data, .pinned], laidTests := true, laidLooks := .later }
def NetsRangesCardSaid : Prop := Claim7.holds Tryd.pinned (.plain (OpenSpec.ofChange netsRangesSpec)) netsRangesCard

/-- THE TIED CARD OF 'wickkeep.FrameBack'. -/
def frameBackCard : Claim7 := { stood := { row := frameBackRow, standIns := [], harness := (true, "c1db523bbb7680c57327ea04a137311cffb6759d18893111a557f5032849dbe8"), looks := false }, kinds := [], alts := [], laidByText := true, laidKinds := [.data, .data, .data], laidTests := true, laidLooks := .later }
def FrameBackCardSaid : Prop := Claim7.holds Tryd.pinned (.plain (OpenSpec.ofChange frameBackSpec)) frameBackCard

/-- THE SECOND FORM's CARD OF 'wicklaw.FrameSays'. -/
def frameSaysUptoCard : Claim7 := { stood := { row := frameSaysUptoRow, standIns := [], harness := (true, "c1db523bbb7680c57327ea04a137311cffb6759d18893111a557f5032849dbe8"), looks := false }, kinds := [], alts := [], laidByText := true, laidKinds := [.data, .data, .data], laidTests := true, laidLooks := .later }
def FrameSaysUptoCardSaid : Prop := Claim7.holds Tryd.pinned (.plain (OpenSpec.upto frameSaysSpec)) frameSaysUptoCard

/-- THE SECOND FORM's CARD OF 'wickkeep.NetsRanges'. -/
def netsRangesUptoCard : Claim7 := { stood := { row := netsRangesUptoRow, standIns := [], harness := (true, "c1db523bbb7680c57327ea04a137311cffb6759d18893111a557f5032849dbe8"), looks := false }, kinds := [], alts := [], laidByText := true, laidKinds := [.data, .pinned], laidTests := true, laidLooks := .later }
def NetsRangesUptoCardSaid : Prop := Claim7.holds Tryd.pinned (.plain (OpenSpec.upto netsRangesSpec)) netsRangesUptoCard

/-- THE SECOND FORM's CARD OF 'wickkeep.FrameBack'. -/
def frameBackUptoCard : Claim7 := { stood := { row := frameBackUptoRow, standIns := [], harness := (true, "c1db523bbb7680c57327ea04a137311cffb6759d18893111a557f5032849dbe8"), looks := false }, kinds := [], alts := [], laidByText := true, laidKinds := [.data, .data, .data], laidTests := true, laidLooks := .later }
def FrameBackUptoCardSaid : Prop := Claim7.holds Tryd.pinned (.plain (OpenSpec.upto frameBackSpec)) frameBackUptoCard
end Rows
end Go.Proofs.YtgmpgacedmjgdaaDoor
