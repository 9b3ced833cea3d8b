/- The document's reading of expressions: class. -/
import Derived.Test.YtjecopdbcaojcaaVgt
import Derived.Test.YtjecopdbcaojcaaVgf
namespace Go.Proofs.Ytjecopdbcaojcaa
open Go.RowKit Kb
set_option linter.unusedVariables false
set_option maxRecDepth 20000

theorem dclass_any (w : World) (B g : Nat) (s : ByteArray) (a op ww : Nat) (h : Txt w B g s ⟨a, op, 0, ww⟩) (hs : s.size ≤ 200) (ha : a ≤ s.size) :
    Calls Try.prog 57 #[.pointer (some ⟨g, 0, none⟩)] w fun e w' => ∃ (q : Se) (t' : Td), e = .returned (setV q) ∧ FitS q ∧ ClsD s a ⟨a, op, 0, ww⟩ t' q ∧ w.grownBy w' (some g) ∧ Txt w' B g s t' := by
  by_cases h94 : pkB s a = 94
  · exact dclass_t w B g s a op ww h hs ha (decide_eq_true h94)
  · exact dclass_f w B g s a op ww h hs ha (decide_eq_false h94)
end Go.Proofs.Ytjecopdbcaojcaa
