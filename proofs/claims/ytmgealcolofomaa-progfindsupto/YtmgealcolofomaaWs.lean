/- The walk of small. -/
import Derived.Test.YtmgealcolofomaaChecked
import Derived.WalkKit
import Derived.WalkSpells
namespace Go.Proofs.Ytmgealcolofomaa
open Go.RowKit
set_option linter.unusedVariables false
set_option maxRecDepth 20000

theorem hide {p : Prop} (h : p) : Hid p := h
theorem unhide {p : Prop} (h : Hid p) : p := h

def smallOf (c : Int) : Int := if 65 ≤ c ∧ c ≤ 90 then c + 32 else c

theorem ret_int {k : IntKind} {a b : Int} (h : a = b) : Ending.returned (.int k a) = .returned (.int k b) := by rw [h]
theorem dec_t {p : Prop} [Decidable p] (h : p) : true = decide p := by simp [h]
theorem dec_f {p : Prop} [Decidable p] (h : ¬ p) : false = decide p := by simp [h]

end Go.Proofs.Ytmgealcolofomaa
