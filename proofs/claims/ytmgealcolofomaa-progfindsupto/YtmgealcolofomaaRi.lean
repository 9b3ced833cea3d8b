/- Walks of the document's answers on texts: in, At, Find. -/
import Derived.Test.YtmgealcolofomaaKb
import Derived.Test.YtmgealcolofomaaFnd
import Derived.Test.YtmgealcolofomaaCh
namespace Go.Proofs.Ytmgealcolofomaa
open Go.RowKit Kb
set_option linter.unusedVariables false
set_option maxRecDepth 20000

/-- does a byte stand in a text? -/
def has (l : List UInt8) (c : UInt8) : Bool := l.contains c

theorem ret_i64t {a b : Int} (h : a = b) : Ending.returned (.int .i64 a) = .returned (.int .i64 b) := by rw [h]

/-- from place a on; the rest of Find's rounds -/
theorem find_none {s t : List UInt8} {frm : Int} (h : ∀ j : Nat, max frm 0 ≤ j → j ≤ s.length → Lib.occAt s t j = false) : Fnd.find s t frm = -1 := by
  rcases Fnd.find_spec s t frm with ⟨g, _⟩ | ⟨k, g1, g2, g3, g4, g5⟩
  · exact g
  · have := h k g2 g3; rw [g4] at this; cases this

theorem occ_at0 (s t : List UInt8) (k : Nat) (h : k ≤ s.length) : Lib.occAt s t k = Ch.at0 (s.drop k) t := by
  by_cases hr : t.length ≤ s.length - k
  · rw [Lib.occAt_iff_take _ _ _ (by omega)]; rfl
  · have e1 : Lib.occAt s t k = false := by
      rcases ho : Lib.occAt s t k with _ | _
      · rfl
      · rcases Lib.occAt_room ho with h | h
        · omega
        · subst h; simp at hr
    rw [e1]
    have : Ch.at0 (s.drop k) t = false := by
      unfold Ch.at0
      rw [beq_eq_false_iff_ne]
      intro e
      have := congrArg List.length e
      rw [List.length_take, List.length_drop] at this; omega
    rw [this]
end Go.Proofs.Ytmgealcolofomaa
