/-
  DERIVED. GIVEN WITH THE SEED: THE CARDS: each row of YtjecopdbcaojcaaDoorRows.lean that lists a variable, with what it lists TIED to the program's text (the seventh form; the later family's looks); each row that meets fmt, with fmt's text TOLD by the authors' own Lean function (tested against real Go, not proved from fmt's source: count such statements apart). THE CARD IS WHAT COUNTS. Prove the row's statement (the work); the ties are given (YtjecopdbcaojcaaDoorTie.lean); close each card by the builder's one call (the guide's Derived/Test/ToyasCard.lean, 'card_holds'). Laid BY PROGRAM, IN A SANDBOX (cutbox-door.mjs). By AI agents, Wed Nov 11 2026. No macro, syntax, notation, axiom, sorry.
-/
import Derived.Test.YtjecopdbcaojcaaDoorRows
import GoSem.ClaimSeven
namespace Go.Proofs.YtjecopdbcaojcaaDoor
namespace Rows

/-- THE TIED CARD OF 'wicklaw.RexFinds'. -/
def rexFindsCard : Claim7 := { stood := { row := rexFindsRow, standIns := [], harness := (true, "7829a5e5f23d910f01505cbbe4120df417ebcce68515d769bd4276374df5e387"), looks := false }, kinds := [], alts := [], laidByText := true, laidKinds := [.data], laidTests := true, laidLooks := .later }
def RexFindsCardSaid : Prop := Claim7.holds Tryd.pinned (.plain (OpenSpec.ofChange rexFindsSpec)) rexFindsCard

/-- THE TIED CARD OF 'wickkeep.RexLaws'. -/
def rexLawsCard : Claim7 := { stood := { row := rexLawsRow, standIns := [], harness := (true, "7829a5e5f23d910f01505cbbe4120df417ebcce68515d769bd4276374df5e387"), looks := false }, kinds := [], alts := [], laidByText := true, laidKinds := [.data], laidTests := true, laidLooks := .later }
def RexLawsCardSaid : Prop := Claim7.holds Tryd.pinned (.plain (OpenSpec.ofChange rexLawsSpec)) rexLawsCard

/-- THE TIED CARD OF 'wickkeep.RexFirst'. -/
def rexFirstCard : Claim7 := { stood := { row := rexFirstRow, standIns := [], harness := (true, "7829a5e5f23d910f01505cbbe4120df417ebcce68515d769bd4276374df5e387"), looks := false }, kinds := [], alts := [], laidByText := true, laidKinds := [.data], laidTests := true, laidLooks := .later }
def RexFirstCardSaid : Prop := Claim7.holds Tryd.pinned (.plain (OpenSpec.ofChange rexFirstSpec)) rexFirstCard

/-- THE TIED CARD OF 'wickkeep.ProgSame'. -/
def progSameCard : Claim7 := { stood := { row := progSameRow, standIns := [], harness := (true, "7829a5e5f23d910f01505cbbe4120df417ebcce68515d769bd4276374df5e387"), looks := false }, kinds := [], alts := [], laidByText := true, laidKinds := [.data], laidTests := true, laidLooks := .later }
def ProgSameCardSaid : Prop := Claim7.holds Tryd.pinned (.plain (OpenSpec.ofChange progSameSpec)) progSameCard

/-- THE SECOND FORM's CARD OF 'wicklaw.RexFinds'. -/
def rexFindsUptoCard : Claim7 := { stood := { row := rexFindsUptoRow, standIns := [], harness := (true, "7829a5e5f23d910f01505cbbe4120df417ebcce68515d769bd4276374df5e387"), looks := false }, kinds := [], alts := [], laidByText := true, laidKinds := [.data], laidTests := true, laidLooks := .later }
def RexFindsUptoCardSaid : Prop := Claim7.holds Tryd.pinned (.plain (OpenSpec.upto rexFindsSpec)) rexFindsUptoCard

/-- THE SECOND FORM's CARD OF 'wickkeep.RexLaws'. -/
def rexLawsUptoCard : Claim7 := { stood := { row := rexLawsUptoRow, standIns := [], harness := (true, "7829a5e5f23d910f01505cbbe4120df417ebcce68515d769bd4276374df5e387"), looks := false }, kinds := [], alts := [], laidByText := true, laidKinds := [.data], laidTests := true, laidLooks := .later }
def RexLawsUptoCardSaid : Prop := Claim7.holds Tryd.pinned (.plain (OpenSpec.upto rexLawsSpec)) rexLawsUptoCard

/-- THE SECOND FORM's CARD OF 'wickkeep.RexFirst'. -/
def rexFirstUptoCard : Claim7 := { stood := { row := rexFirstUptoRow, standIns := [], harness := (true, "7829a5e5f23d910f01505cbbe4120df417ebcce68515d769bd4276374df5e387"), looks := false }, kinds := [], alts := [], laidByText := true, laidKinds := [.data], laidTests := true, laidLooks := .later }
def RexFirstUptoCardSaid : Prop := Claim7.holds Tryd.pinned (.plain (OpenSpec.upto rexFirstSpec)) rexFirstUptoCard

/-- THE SECOND FORM's CARD OF 'wickkeep.ProgSame'. -/
def progSameUptoCard : Claim7 := { stood := { row := progSameUptoRow, standIns := [], harness := (true, "7829a5e5f23d910f01505cbbe4120df417ebcce68515d769bd4276374df5e387"), looks := false }, kinds := [], alts := [], laidByText := true, laidKinds := [.data], laidTests := true, laidLooks := .later }
def ProgSameUptoCardSaid : Prop := Claim7.holds Tryd.pinned (.plain (OpenSpec.upto progSameSpec)) progSameUptoCard
end Rows
end Go.Proofs.YtjecopdbcaojcaaDoor
