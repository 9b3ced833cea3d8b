/-
  DERIVED. GIVEN WITH THE SEED: THE CARDS: each row of YtkhbfdokkmebhaaDoorRows.lean that lists a variable, with what it lists TIED to the program's text (the seventh form; the later family's looks); each row that meets fmt, with fmt's text TOLD by the authors' own Lean function (tested against real Go, not proved from fmt's source: count such statements apart). THE CARD IS WHAT COUNTS. Prove the row's statement (the work); the ties are given (YtkhbfdokkmebhaaDoorTie.lean); close each card by the builder's one call (the guide's Derived/Test/ToyasCard.lean, 'card_holds'). Laid BY PROGRAM, IN A SANDBOX (cutbox-door.mjs). By AI agents, Wed Nov 11 2026. No macro, syntax, notation, axiom, sorry.
-/
import Derived.Test.YtkhbfdokkmebhaaDoorRows
import GoSem.ClaimSeven
namespace Go.Proofs.YtkhbfdokkmebhaaDoor
namespace Rows

/-- THE TIED CARD OF 'wicklaw.PipeReads'. -/
def pipeReadsCard : Claim7 := { stood := { row := pipeReadsRow, standIns := [], harness := (true, "5131e57437a3dff7d61418aa5f29dc6ed69b5fa13c5923e5598efd6e6a72a349"), looks := false }, kinds := [], alts := [], laidByText := true, laidKinds := [.data, .widerDeep, .data, .pinned], laidTests := true, laidLooks := .later }
def PipeReadsCardSaid : Prop := Claim7.holds Tryd.pinned (.plain (OpenSpec.ofChange pipeReadsSpec)) pipeReadsCard

/-- THE TIED CARD OF 'wickkeep.PipeBack'. -/
def pipeBackCard : Claim7 := { stood := { row := pipeBackRow, standIns := [], harness := (true, "5131e57437a3dff7d61418aa5f29dc6ed69b5fa13c5923e5598efd6e6a72a349"), looks := false }, kinds := [], alts := [], laidByText := true, laidKinds := [.data, .data, .pinned], laidTests := true, laidLooks := .later }
def PipeBackCardSaid : Prop := Claim7.holds Tryd.pinned (.plain (OpenSpec.ofChange pipeBackSpec)) pipeBackCard

/-- THE TIED CARD OF 'wickkeep.PipeJoins'. -/
def pipeJoinsCard : Claim7 := { stood := { row := pipeJoinsRow, standIns := [], harness := (true, "5131e57437a3dff7d61418aa5f29dc6ed69b5fa13c5923e5598efd6e6a72a349"), looks := false }, kinds := [], alts := [], laidByText := true, laidKinds := [.data, .data, .data, .data, .pinned], laidTests := true, laidLooks := .later }
def PipeJoinsCardSaid : Prop := Claim7.holds Tryd.pinned (.plain (OpenSpec.ofChange pipeJoinsSpec)) pipeJoinsCard

/-- THE SECOND FORM's CARD OF 'wicklaw.PipeReads'. -/
def pipeReadsUptoCard : Claim7 := { stood := { row := pipeReadsUptoRow, standIns := [], harness := (true, "5131e57437a3dff7d61418aa5f29dc6ed69b5fa13c5923e5598efd6e6a72a349"), looks := false }, kinds := [], alts := [], laidByText := true, laidKinds := [.data, .widerDeep, .data, .pinned], laidTests := true, laidLooks := .later }
def PipeReadsUptoCardSaid : Prop := Claim7.holds Tryd.pinned (.plain (OpenSpec.upto pipeReadsSpec)) pipeReadsUptoCard

/-- THE SECOND FORM's CARD OF 'wickkeep.PipeBack'. -/
def pipeBackUptoCard : Claim7 := { stood := { row := pipeBackUptoRow, standIns := [], harness := (true, "5131e57437a3dff7d61418aa5f29dc6ed69b5fa13c5923e5598efd6e6a72a349"), looks := false }, kinds := [], alts := [], laidByText := true, laidKinds := [.data, .data, .pinned], laidTests := true, laidLooks := .later }
def PipeBackUptoCardSaid : Prop := Claim7.holds Tryd.pinned (.plain (OpenSpec.upto pipeBackSpec)) pipeBackUptoCard

/-- THE SECOND FORM's CARD OF 'wickkeep.PipeJoins'. -/
def pipeJoinsUptoCard : Claim7 := { stood := { row := pipeJoinsUptoRow, standIns := [], harness := (true, "5131e57437a3dff7d61418aa5f29dc6ed69b5fa13c5923e5598efd6e6a72a349"), looks := false }, kinds := [], alts := [], laidByText := true, laidKinds := [.data, .data, .data, .data, .pinned], laidTests := true, laidLooks := .later }
def PipeJoinsUptoCardSaid : Prop := Claim7.holds Tryd.pinned (.plain (OpenSpec.upto pipeJoinsSpec)) pipeJoinsUptoCard
end Rows
end Go.Proofs.YtkhbfdokkmebhaaDoor
