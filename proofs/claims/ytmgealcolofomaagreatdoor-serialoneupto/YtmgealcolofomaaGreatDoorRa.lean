/- Walks of the document's answers on texts: in, At, Find, Token, Trim. -/
import Derived.Test.YtmgealcolofomaaGreatDoorWt
namespace Go.Proofs.YtmgealcolofomaaGreatDoor
open Go.RowKit
set_option linter.unusedVariables false
set_option maxRecDepth 20000

/-- does a byte stand in a text? -/
def has (l : List UInt8) (c : UInt8) : Bool := l.contains c

theorem ret_i64t {a b : Int} (h : a = b) : Ending.returned (.int .i64 a) = .returned (.int .i64 b) := by rw [h]

/-- from place a on; the rest of Find's rounds -/
theorem find_none {s t : List UInt8} {frm : Int} (h : ∀ j : Nat, max frm 0 ≤ j → j ≤ s.length → Lib.occAt s t j = false) : Fnd.find s t frm = -1 := by
  rcases Fnd.find_spec s t frm with ⟨g, _⟩ | ⟨k, g1, g2, g3, g4, g5⟩
  · exact g
  · have := h k g2 g3; rw [g4] at this; cases this

/-- a text whose bytes are just those of a token -/
theorem has_tok (l : List UInt8) (h : (List.range 256).all (fun n => has l (UInt8.ofNat n) == tok8 (UInt8.ofNat n)) = true) (c : UInt8) : has l c = tok8 c := by
  have := u8_all (p := fun c => has l c == tok8 c) h c
  simpa using this
end Go.Proofs.YtmgealcolofomaaGreatDoor
