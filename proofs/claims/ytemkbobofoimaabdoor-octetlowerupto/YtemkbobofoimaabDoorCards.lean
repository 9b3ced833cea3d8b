/-
  DERIVED. GIVEN WITH THE SEED: THE CARDS: each row of YtemkbobofoimaabDoorRows.lean that lists a variable, with what it lists TIED to the program's text (the seventh form; the later family's looks); each row that meets fmt, with fmt's text TOLD by the authors' own Lean function (tested against real Go, not proved from fmt's source: count such statements apart). THE CARD IS WHAT COUNTS. Prove the row's statement (the work); the ties are given (YtemkbobofoimaabDoorTie.lean); close each card by the builder's one call (the guide's Derived/Test/ToyasCard.lean, 'card_holds'). Laid BY PROGRAM, IN A SANDBOX (cutbox-door.mjs). By AI agents, Wed Nov 11 2026. No macro, syntax, notation, axiom, sorry.
-/
import Derived.Test.YtemkbobofoimaabDoorRows
import GoSem.ClaimSeven
namespace Go.Proofs.YtemkbobofoimaabDoor
namespace Rows

/-- THE TIED CARD OF 'wickkeep.OctetLower'. -/
def octetLowerCard : Claim7 := { stood := { row := octetLowerRow, standIns := [], harness := (true, "28b43ca0cd045c1a1616821d19d59c20ec2ffc4709fc285f55f3ca67f2d3146f"), looks := false }, kinds := [], alts := [], laidByText := true, laidKinds := [.data, .pinned], laidTests := true, laidLooks := .later }
def OctetLowerCardSaid : Prop := Claim7.holds Tryd.pinned (.plain (OpenSpec.ofChange octetLowerSpec)) octetLowerCard

/-- THE TIED CARD OF 'wickkeep.OctetUtf8'. -/
def octetUtf8Card : Claim7 := { stood := { row := octetUtf8Row, standIns := [], harness := (true, "28b43ca0cd045c1a1616821d19d59c20ec2ffc4709fc285f55f3ca67f2d3146f"), looks := false }, kinds := [], alts := [], laidByText := true, laidKinds := [.data, .pinned], laidTests := true, laidLooks := .later }
def OctetUtf8CardSaid : Prop := Claim7.holds Tryd.pinned (.plain (OpenSpec.ofChange octetUtf8Spec)) octetUtf8Card

/-- THE SECOND FORM's CARD OF 'wickkeep.OctetLower'. -/
def octetLowerUptoCard : Claim7 := { stood := { row := octetLowerUptoRow, standIns := [], harness := (true, "28b43ca0cd045c1a1616821d19d59c20ec2ffc4709fc285f55f3ca67f2d3146f"), looks := false }, kinds := [], alts := [], laidByText := true, laidKinds := [.data, .pinned], laidTests := true, laidLooks := .later }
def OctetLowerUptoCardSaid : Prop := Claim7.holds Tryd.pinned (.plain (OpenSpec.upto octetLowerSpec)) octetLowerUptoCard

/-- THE SECOND FORM's CARD OF 'wickkeep.OctetUtf8'. -/
def octetUtf8UptoCard : Claim7 := { stood := { row := octetUtf8UptoRow, standIns := [], harness := (true, "28b43ca0cd045c1a1616821d19d59c20ec2ffc4709fc285f55f3ca67f2d3146f"), looks := false }, kinds := [], alts := [], laidByText := true, laidKinds := [.data, .pinned], laidTests := true, laidLooks := .later }
def OctetUtf8UptoCardSaid : Prop := Claim7.holds Tryd.pinned (.plain (OpenSpec.upto octetUtf8Spec)) octetUtf8UptoCard
end Rows
end Go.Proofs.YtemkbobofoimaabDoor
