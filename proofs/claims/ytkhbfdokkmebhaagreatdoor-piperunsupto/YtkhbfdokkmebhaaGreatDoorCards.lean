/-
  DERIVED. GIVEN WITH THE SEED: THE CARDS: each row of YtkhbfdokkmebhaaGreatDoorRows.lean that lists a variable, with what it lists TIED to the program's text (the seventh form; the later family's looks); each row that meets fmt, with fmt's text TOLD by the authors' own Lean function (tested against real Go, not proved from fmt's source: count such statements apart). THE CARD IS WHAT COUNTS. Prove the row's statement (the work); the ties are given (YtkhbfdokkmebhaaGreatDoorTie.lean); close each card by the builder's one call (the guide's Derived/Test/ToyasCard.lean, 'card_holds'). Laid BY PROGRAM, IN A SANDBOX (cutbox-door.mjs). By AI agents, Wed Nov 11 2026. No macro, syntax, notation, axiom, sorry.
-/
import Derived.Test.YtkhbfdokkmebhaaGreatDoorRows
import GoSem.ClaimSeven
namespace Go.Proofs.YtkhbfdokkmebhaaGreatDoor
namespace Rows

/-- THE TIED CARD OF 'wicklaw.PipeRuns'. -/
def pipeRunsCard : Claim7 := { stood := { row := pipeRunsRow, standIns := [], harness := (true, "97d3d47f2a1d286a51c46aa1e5e18d63209a566cf4b510afa888e5e3f3e1aa25"), looks := false }, kinds := [], alts := [], laidByText := true, laidKinds := [.data, .data, .data, .data, .pinned], laidTests := true, laidLooks := .later }
def PipeRunsCardSaid : Prop := Claim7.holds Tryz.pinned (.plain (OpenSpec.ofChange pipeRunsSpec)) pipeRunsCard

/-- THE SECOND FORM's CARD OF 'wicklaw.PipeRuns'. -/
def pipeRunsUptoCard : Claim7 := { stood := { row := pipeRunsUptoRow, standIns := [], harness := (true, "97d3d47f2a1d286a51c46aa1e5e18d63209a566cf4b510afa888e5e3f3e1aa25"), looks := false }, kinds := [], alts := [], laidByText := true, laidKinds := [.data, .data, .data, .data, .pinned], laidTests := true, laidLooks := .later }
def PipeRunsUptoCardSaid : Prop := Claim7.holds Tryz.pinned (.plain (OpenSpec.upto pipeRunsSpec)) pipeRunsUptoCard
end Rows
end Go.Proofs.YtkhbfdokkmebhaaGreatDoor
