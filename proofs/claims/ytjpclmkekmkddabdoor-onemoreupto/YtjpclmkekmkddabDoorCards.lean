/-
  DERIVED. GIVEN WITH THE SEED: THE CARDS: each row of YtjpclmkekmkddabDoorRows.lean that lists a variable, with what it lists TIED to the program's text (the seventh form; the later family's looks); each row that meets fmt, with fmt's text TOLD by the authors' own Lean function (tested against real Go, not proved from fmt's source: count such statements apart). THE CARD IS WHAT COUNTS. Prove the row's statement (the work); the ties are given (YtjpclmkekmkddabDoorTie.lean); close each card by the builder's one call (the guide's Derived/Test/ToyasCard.lean, 'card_holds'). Laid BY PROGRAM, IN A SANDBOX (cutbox-door.mjs). By AI agents, Wed Nov 11 2026. No macro, syntax, notation, axiom, sorry.
-/
import Derived.Test.YtjpclmkekmkddabDoorRows
import GoSem.ClaimSeven
namespace Go.Proofs.YtjpclmkekmkddabDoor
namespace Rows

/-- THE TIED CARD OF 'wickkeep.OneMore'. -/
def oneMoreCard : Claim7 := { stood := { row := oneMoreRow, standIns := [], harness := (true, "58961dbb7edb147dba6e9f5fc2dcfe302f469579414d6f257f2a19d6f0585345"), looks := false }, kinds := [], alts := [], laidByText := true, laidKinds := [.data, .pinned], laidTests := true, laidLooks := .later }
def OneMoreCardSaid : Prop := Claim7.holds Tryd.pinned (.plain (OpenSpec.ofChange oneMoreSpec)) oneMoreCard

/-- THE SECOND FORM's CARD OF 'wickkeep.OneMore'. -/
def oneMoreUptoCard : Claim7 := { stood := { row := oneMoreUptoRow, standIns := [], harness := (true, "58961dbb7edb147dba6e9f5fc2dcfe302f469579414d6f257f2a19d6f0585345"), looks := false }, kinds := [], alts := [], laidByText := true, laidKinds := [.data, .pinned], laidTests := true, laidLooks := .later }
def OneMoreUptoCardSaid : Prop := Claim7.holds Tryd.pinned (.plain (OpenSpec.upto oneMoreSpec)) oneMoreUptoCard
end Rows
end Go.Proofs.YtjpclmkekmkddabDoor
