/-
  DERIVED. GIVEN WITH THE SEED: THE CARDS: each row of YtmgealcolofomaaDoorRows.lean that lists a variable, with what it lists TIED to the program's text (the seventh form; the later family's looks); each row that meets fmt, with fmt's text TOLD by the authors' own Lean function (tested against real Go, not proved from fmt's source: count such statements apart). THE CARD IS WHAT COUNTS. Prove the row's statement (the work); the ties are given (YtmgealcolofomaaDoorTie.lean); close each card by the builder's one call (the guide's Derived/Test/ToyasCard.lean, 'card_holds'). Laid BY PROGRAM, IN A SANDBOX (cutbox-door.mjs). By AI agents, Wed Nov 11 2026. No macro, syntax, notation, axiom, sorry.
-/
import Derived.Test.YtmgealcolofomaaDoorRows
import GoSem.ClaimSeven
namespace Go.Proofs.YtmgealcolofomaaDoor
namespace Rows

/-- THE TIED CARD OF 'wicklaw.SerialSays'. -/
def serialSaysCard : Claim7 := { stood := { row := serialSaysRow, standIns := [], harness := (true, "82baf943145115f361b4362fb0a2885612e6fa5c226ce1d36a7672d35b4d4f2e"), looks := false }, kinds := [], alts := [], laidByText := true, laidKinds := [.data, .data, .data, .data, .pinned], laidTests := true, laidLooks := .later }
def SerialSaysCardSaid : Prop := Claim7.holds Tryd.pinned (.plain (OpenSpec.ofChange serialSaysSpec)) serialSaysCard

/-- THE TIED CARD OF 'wickkeep.ProgSame'. -/
def progSameCard : Claim7 := { stood := { row := progSameRow, standIns := [], harness := (true, "82baf943145115f361b4362fb0a2885612e6fa5c226ce1d36a7672d35b4d4f2e"), looks := false }, kinds := [], alts := [], laidByText := true, laidKinds := [.data], laidTests := true, laidLooks := .later }
def ProgSameCardSaid : Prop := Claim7.holds Tryd.pinned (.plain (OpenSpec.ofChange progSameSpec)) progSameCard

/-- THE TIED CARD OF 'wickkeep.HeadOwn'. -/
def headOwnCard : Claim7 := { stood := { row := headOwnRow, standIns := [], harness := (true, "82baf943145115f361b4362fb0a2885612e6fa5c226ce1d36a7672d35b4d4f2e"), looks := false }, kinds := [], alts := [], laidByText := true, laidKinds := [.data, .data, .data, .data, .pinned], laidTests := true, laidLooks := .later }
def HeadOwnCardSaid : Prop := Claim7.holds Tryd.pinned (.plain (OpenSpec.ofChange headOwnSpec)) headOwnCard

/-- THE SECOND FORM's CARD OF 'wicklaw.SerialSays'. -/
def serialSaysUptoCard : Claim7 := { stood := { row := serialSaysUptoRow, standIns := [], harness := (true, "82baf943145115f361b4362fb0a2885612e6fa5c226ce1d36a7672d35b4d4f2e"), looks := false }, kinds := [], alts := [], laidByText := true, laidKinds := [.data, .data, .data, .data, .pinned], laidTests := true, laidLooks := .later }
def SerialSaysUptoCardSaid : Prop := Claim7.holds Tryd.pinned (.plain (OpenSpec.upto serialSaysSpec)) serialSaysUptoCard

/-- THE SECOND FORM's CARD OF 'wickkeep.ProgSame'. -/
def progSameUptoCard : Claim7 := { stood := { row := progSameUptoRow, standIns := [], harness := (true, "82baf943145115f361b4362fb0a2885612e6fa5c226ce1d36a7672d35b4d4f2e"), looks := false }, kinds := [], alts := [], laidByText := true, laidKinds := [.data], laidTests := true, laidLooks := .later }
def ProgSameUptoCardSaid : Prop := Claim7.holds Tryd.pinned (.plain (OpenSpec.upto progSameSpec)) progSameUptoCard

/-- THE SECOND FORM's CARD OF 'wickkeep.HeadOwn'. -/
def headOwnUptoCard : Claim7 := { stood := { row := headOwnUptoRow, standIns := [], harness := (true, "82baf943145115f361b4362fb0a2885612e6fa5c226ce1d36a7672d35b4d4f2e"), looks := false }, kinds := [], alts := [], laidByText := true, laidKinds := [.data, .data, .data, .data, .pinned], laidTests := true, laidLooks := .later }
def HeadOwnUptoCardSaid : Prop := Claim7.holds Tryd.pinned (.plain (OpenSpec.upto headOwnSpec)) headOwnUptoCard
end Rows
end Go.Proofs.YtmgealcolofomaaDoor
